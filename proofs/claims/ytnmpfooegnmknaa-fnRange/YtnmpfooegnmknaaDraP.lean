/- An entry put into a draft: what the program answers. -/
import Derived.Test.YtnmpfooegnmknaaPgX
import Derived.Test.YtnmpfooegnmknaaRepB
import Derived.Deep.DeepCutAuto
namespace Go.Proofs.Ytnmpfooegnmknaa.Tr
open Go.RowKit
set_option linter.unusedVariables false

/-- One pointer that gave way to two, in the same row or in a new one. -/
theorem Draft.rep {w w' : World} {base d gp cp : Nat} {ps : List (Option Addr)} {f : List Pg} {nx nx' : Int} (h : Draft w base d gp cp ps f nx) {k b1 o1 c1 b2 o2 c2 g' cap' : Nat} {q1 q2 : Option Addr} {p1 p2 : Pg} (hk : k < f.length)
    (hp1 : PgC w b1 o1 q1 c1 p1) (m1 : b1 ≠ d) (m2 : b1 ≠ gp) (m3 : ∀ b' o', q1 = some ⟨b', o', none⟩ → b' ≠ d ∧ b' ≠ gp ∧ b' < w.heap.size)
    (hp2 : PgC w b2 o2 q2 c2 p2) (n1 : b2 ≠ d) (n2 : b2 ≠ gp) (n3 : ∀ b' o', q2 = some ⟨b', o', none⟩ → b' ≠ d ∧ b' ≠ gp ∧ b' < w.heap.size)
    (ho : w'.ownsRow base 91 1 (.slice (some ⟨g', 0, none⟩) (f.length + 1) cap') (f.length + 1) (repQ (ps.map Value.pointer) k (.pointer (some ⟨b1, o1, none⟩)) (.pointer (some ⟨b2, o2, none⟩)))) (hg : w.grownBy w' (some gp)) (hat : g' = gp ∨ w.heap.size ≤ g') :
    Draft ((w'.setCell ⟨d, 0, none⟩ (.slice (some ⟨g', 0, none⟩) (f.length + 1) cap')).setCell ⟨d, 1, none⟩ (.int .i64 nx')) base d g' cap' (ps.take k ++ [some ⟨b1, o1, none⟩, some ⟨b2, o2, none⟩] ++ ps.drop (k + 1)) (f.take k ++ (p1 :: p2 :: f.drop (k + 1))) nx' := by
  have hpl := h.plen
  have hdl := h.lt
  have hdg := h.dg
  have hdg' : d ≠ g' := by rcases hat with e | e <;> omega
  have hd1 : w'.heap[d]? = w.heap[d]? := hg.block d h.lt (fun e => h.dg (Option.some.inj e))
  have e0 : w'.cell? ⟨d, 0, none⟩ = some (.slice (some ⟨gp, 0, none⟩) f.length cp) := (World.cell?_of_block hd1).trans h.c0
  have e1 : w'.cell? ⟨d, 1, none⟩ = some (.int .i64 nx) := (World.cell?_of_block hd1).trans h.c1
  have y0 : w'.frozen? ⟨d, 0, none⟩ = false := by rw [← h.z0]; simp only [World.frozen?, hd1]
  have y1 : w'.frozen? ⟨d, 1, none⟩ = false := by rw [← h.z1]; simp only [World.frozen?, hd1]
  have hg2 : w'.grownBy (w'.setCell ⟨d, 0, none⟩ (.slice (some ⟨g', 0, none⟩) (f.length + 1) cap')) (some d) := grown_set
  have hg3 : (w'.setCell ⟨d, 0, none⟩ (.slice (some ⟨g', 0, none⟩) (f.length + 1) cap')).grownBy ((w'.setCell ⟨d, 0, none⟩ (.slice (some ⟨g', 0, none⟩) (f.length + 1) cap')).setCell ⟨d, 1, none⟩ (.int .i64 nx')) (some d) := grown_set
  have hfl : (f.take k ++ (p1 :: p2 :: f.drop (k + 1))).length = f.length + 1 := by
    simp only [List.length_append, List.length_take, List.length_cons, List.length_drop]; omega
  have hne : (Value.slice (some ⟨g', 0, none⟩) (f.length + 1) cap').ownBlock = none ∨ (Value.slice (some ⟨g', 0, none⟩) (f.length + 1) cap').ownBlock ≠ some d := .inr (fun e => hdg' (Option.some.inj e).symm)
  have hown := (ho.kept hg2 hne).kept hg3 hne
  have hmap : repQ (ps.map Value.pointer) k (.pointer (some ⟨b1, o1, none⟩)) (.pointer (some ⟨b2, o2, none⟩)) = (ps.take k ++ ([some ⟨b1, o1, none⟩, some ⟨b2, o2, none⟩] : List (Option Addr)) ++ ps.drop (k + 1)).map Value.pointer := by
    unfold repQ; rw [List.map_append, List.map_append, List.map_take, List.map_drop]; rfl
  rw [hmap] at hown
  clear hmap ho
  have key : ∀ {b o c : Nat} {q : Option Addr} {p : Pg}, PgC w b o q c p → b ≠ d → b ≠ gp → (∀ b' o', q = some ⟨b', o', none⟩ → b' ≠ d ∧ b' ≠ gp ∧ b' < w.heap.size) → PgC ((w'.setCell ⟨d, 0, none⟩ (.slice (some ⟨g', 0, none⟩) (f.length + 1) cap')).setCell ⟨d, 1, none⟩ (.int .i64 nx')) b o q c p ∧ b ≠ d ∧ b ≠ g' ∧ (∀ b' o', q = some ⟨b', o', none⟩ → b' ≠ d ∧ b' ≠ g') := by
    intro b o c q p hp a1 a2 a3
    have hbl := hp.lt
    refine ⟨((hp.grown hg a2 (fun b' o' e => (a3 b' o' e).2.1)).grown hg2 a1 (fun b' o' e => (a3 b' o' e).1)).grown hg3 a1 (fun b' o' e => (a3 b' o' e).1), a1, ?_, fun b' o' e => ⟨(a3 b' o' e).1, ?_⟩⟩
    · rcases hat with e | e <;> omega
    · have := a3 b' o' e
      rcases hat with e | e <;> omega
  have old : ∀ j (hj : j < f.length), ∃ b o q c, ps[j]? = some (some ⟨b, o, none⟩) ∧ PgC ((w'.setCell ⟨d, 0, none⟩ (.slice (some ⟨g', 0, none⟩) (f.length + 1) cap')).setCell ⟨d, 1, none⟩ (.int .i64 nx')) b o q c f[j] ∧ b ≠ d ∧ b ≠ g' ∧ (∀ b' o', q = some ⟨b', o', none⟩ → b' ≠ d ∧ b' ≠ g') := by
    intro j hj
    obtain ⟨b, o, q, c, t1, t2, t3, t4, t5⟩ := h.pages j hj
    have := key t2 t3 t4 (fun b' o' e => ⟨(t5 b' o' e).1, (t5 b' o' e).2, by
      rcases t2.form with ⟨h0, _⟩ | ⟨x, y, h0, hx⟩
      · rw [h0] at e; cases e
      · rw [h0] at e; cases e; exact hx⟩)
    exact ⟨b, o, q, c, t1, this⟩
  refine ⟨h.bd, Nat.lt_of_lt_of_le (Nat.lt_of_lt_of_le (Nat.lt_of_lt_of_le h.lt hg.size) hg2.size) hg3.size, hdg', ?_, by simp [go_sem, *], by simp [go_sem, *], by simp [go_sem, *], by rw [hfl]; exact hown, ?_⟩
  · rw [hfl]; simp [go_sem, *]
  · intro j hj
    rw [hfl] at hj
    have hlk : (f.take k).length = k := by rw [List.length_take]; omega
    have hlp : (ps.take k).length = k := by rw [List.length_take]; omega
    rcases Nat.lt_trichotomy j k with hjk | hjk | hjk
    · obtain ⟨b, o, q, c, t1, t2⟩ := old j (by omega)
      refine ⟨b, o, q, c, ?_, ?_⟩
      · rw [List.append_assoc, List.getElem?_append_left (by omega), List.getElem?_take_of_lt hjk]; exact t1
      · rw [List.getElem_append_left (by omega), List.getElem_take]; exact t2
    · subst hjk
      refine ⟨b1, o1, q1, c1, ?_, ?_⟩
      · rw [List.append_assoc, List.getElem?_append_right (by omega), hlp, Nat.sub_self]; rfl
      · have e : (f.take j ++ (p1 :: p2 :: f.drop (j + 1)))[j]'(by omega) = p1 := by
          rw [List.getElem_append_right (by omega)]; simp [hlk]
        rw [e]; exact key hp1 m1 m2 m3
    · rcases (show j = k + 1 ∨ k + 2 ≤ j by omega) with hj1 | hj2
      · subst hj1
        refine ⟨b2, o2, q2, c2, ?_, ?_⟩
        · rw [List.append_assoc, List.getElem?_append_right (by omega), hlp, show k + 1 - k = 1 by omega]; rfl
        · have e : (f.take k ++ (p1 :: p2 :: f.drop (k + 1)))[k + 1]'(by omega) = p2 := by
            rw [List.getElem_append_right (by omega)]; simp [hlk]
          rw [e]; exact key hp2 n1 n2 n3
      · obtain ⟨m, rfl⟩ : ∃ m, j = k + 2 + m := ⟨j - (k + 2), by omega⟩
        obtain ⟨b, o, q, c, t1, t2⟩ := old (k + 1 + m) (by omega)
        refine ⟨b, o, q, c, ?_, ?_⟩
        · rw [List.append_assoc, List.getElem?_append_right (by omega), hlp, show k + 2 + m - k = m + 2 by omega]
          show (([some ⟨b1, o1, none⟩, some ⟨b2, o2, none⟩] : List (Option Addr)) ++ ps.drop (k + 1))[m + 2]? = _
          rw [List.getElem?_append_right (by simp), List.getElem?_drop]
          simpa using t1
        · have e : (f.take k ++ (p1 :: p2 :: f.drop (k + 1)))[k + 2 + m]'(by omega) = f[k + 1 + m]'(by omega) := by
            rw [List.getElem_append_right (by omega)]
            simp only [hlk, show k + 2 + m - k = m + 1 + 1 by omega, List.getElem_cons_succ, List.getElem_drop]
          rw [e]; exact t2

set_option maxRecDepth 4000 in
set_option maxHeartbeats 4000000 in
theorem put_there (base d gp cp : Nat) (ps : List (Option Addr)) (f : List Pg) (next : Int) (e : Ent) (k i : Nat) (w : World) (hD : Draft w base d gp cp ps f next) (hT : treeB f next = true) (hbase : base ≤ w.heap.size) (hkk : place f e = k) (hk : k < f.length) (hP : PlaceE f[k].es e i true) :
    Calls Try.prog 48 #[.pointer (some ⟨d, 0, none⟩), .agg #[.string e.key, .int .i64 e.id]] w fun e' w' => e' = .returned (.tuple #[.int .i64 0, .int .i64 12]) ∧ Below w.heap.size w w' := by
  have hb0 : Below w.heap.size w (w.alloc (.cells #[.string e.key, .int .i64 e.id] 40)) := (Below.refl _ _).alloc (Nat.le_refl _) _
  have d0 : (w.alloc (.cells #[.string e.key, .int .i64 e.id] 40)).cell? ⟨w.heap.size, 0, none⟩ = some (.string e.key) := by simp [go_sem]
  have d1 : (w.alloc (.cells #[.string e.key, .int .i64 e.id] 40)).cell? ⟨w.heap.size, 1, none⟩ = some (.int .i64 e.id) := by simp [go_sem]
  have l0 : w.heap.size < (w.alloc (.cells #[.string e.key, .int .i64 e.id] 40)).heap.size := by simp
  have h60 := ((treeB_iff f next).1 hT).1
  have hsm := tree_small hT
  have hs4 := hsm f[k] (List.getElem_mem _)
  have hk2 : (k : Int) < (f.length : Int) := by omega
  have hi : i ≤ f[k].es.length := hP.le
  have HD0 : Hid (Draft _ _ _ _ _ _ _ _) := hD.next hb0
  have HPL : Hid (∀ W : World, PtrP W gp f → Calls _ _ _ W _) := fun W hW => pagePlace_any gp cp f e W hW (by omega) (by omega) (fun l hl => Nat.le_trans (hsm l hl) (by omega)) (tree_some hT)
  obtain ⟨b, o, q, c, hpi, hpg, hpd, hpgp, hpq⟩ := hD.pages k hk
  have HPP : Hid (∀ W : World, Below w.heap.size w W → PgC W b o q c f[k]) := fun W hW => hpg.next hW
  have HQ : Hid (∀ b' o', q = some ⟨b', o', none⟩ → b' ≠ d ∧ b' ≠ gp) := hpq
  have HPE : Hid (∀ W : World, PageAtA W b o f[k] → Calls _ _ _ W _) := fun W hW => entryPlace_at b o f[k] e i true W hW (page_rise hT hk) (by omega) hP
  have HPI : Hid (ps[k]? = some (some ⟨b, o, none⟩)) := hpi
  have hbd := hD.bd
  rw [hkk] at HPL
  have hbg : base ≤ gp := (hD.own.lt gp rfl).1
  clear hsm hD hT hP hkk hpg hpq hpi
  go_enter Try.func48, Try.ntmps48
  go_wp2_with fail
  generalize w.alloc (.cells #[.string e.key, .int .i64 e.id] 40) = W0 at hb0 d0 d1 l0 HD0 ⊢
  have hdl := HD0.out.lt
  have hgl : gp < W0.heap.size := (HD0.out.own.lt gp rfl).2
  have u0 : ∀ u : Under W0, u.x.cell? ⟨d, 0, none⟩ = some (.slice (some ⟨gp, 0, none⟩) f.length cp) := fun u => (u.h.cell hdl).trans HD0.out.c0
  have u1 : ∀ u : Under W0, u.x.cell? ⟨w.heap.size, 0, none⟩ = some (.string e.key) := fun u => (u.h.cell l0).trans d0
  have u2 : ∀ u : Under W0, u.x.cell? ⟨w.heap.size, 1, none⟩ = some (.int .i64 e.id) := fun u => (u.h.cell l0).trans d1
  have hnu : Nonempty (Under W0) := ⟨⟨W0, Below.refl _ _⟩⟩
  have HPU : Hid (∀ u : Under W0, Calls _ _ _ u.x _) := fun u => HPL.out u.x (HD0.out.next u.h).ptr
  have HP0 : Hid (W0.cell? ⟨gp, k, none⟩ = some (.pointer (some ⟨b, o, none⟩))) := HD0.out.cellP k _ HPI.out
  clear d0 d1
  refine wp_region_under (by kernel_rfl) (by kernel_rfl) ?_
  repeat (go_big_quiet_step ((go_at_call 58; exact calls_under _ (HPU.out _))))
  refine wpQuiet_nil ?_
  rintro _ ⟨u, rfl⟩
  obtain ⟨w1, hb1⟩ := u
  dsimp only
  have hdl1 : d < w1.heap.size := Nat.lt_of_lt_of_le hdl hb1.size
  have hgl1 : gp < w1.heap.size := Nat.lt_of_lt_of_le hgl hb1.size
  have l1 : w.heap.size < w1.heap.size := Nat.lt_of_lt_of_le l0 hb1.size
  have v0 : ∀ u : Under w1, u.x.cell? ⟨d, 0, none⟩ = some (.slice (some ⟨gp, 0, none⟩) f.length cp) := fun u => (u.h.cell hdl1).trans (u0 ⟨w1, hb1⟩)
  have v1 : ∀ u : Under w1, u.x.cell? ⟨w.heap.size, 0, none⟩ = some (.string e.key) := fun u => (u.h.cell l1).trans (u1 ⟨w1, hb1⟩)
  have v2 : ∀ u : Under w1, u.x.cell? ⟨w.heap.size, 1, none⟩ = some (.int .i64 e.id) := fun u => (u.h.cell l1).trans (u2 ⟨w1, hb1⟩)
  have v3 : ∀ u : Under w1, u.x.cell? ⟨gp, k, none⟩ = some (.pointer (some ⟨b, o, none⟩)) := fun u => (u.h.cell hgl1).trans ((hb1.cell hgl).trans HP0.out)
  have hB1 : Below w.heap.size w w1 := hb0.trans (hb1.mono hb0.size)
  have HD1 : Hid (Draft w1 base d gp cp ps f next) := HD0.out.next hb1
  have hnu1 : Nonempty (Under w1) := ⟨⟨w1, Below.refl _ _⟩⟩
  have HEU : Hid (∀ u : Under w1, Calls _ _ _ u.x _) := fun u => HPE.out u.x (HPP.out u.x (hB1.trans (u.h.mono hB1.size))).pageAt
  clear u0 u1 u2 hnu HPU HP0 HPL HPE HD0 hb1 hb0 hdl hgl l0
  go_wp2_with fail
  refine wp_region_under (by kernel_rfl) (by kernel_rfl) ?_
  repeat (go_big_quiet_step ((go_at_call 94; exact calls_under _ (HEU.out _))))
  refine wpQuiet_nil ?_
  rintro _ ⟨u, rfl⟩
  obtain ⟨w2, hb2⟩ := u
  dsimp only
  have hB2 : Below w.heap.size w w2 := hB1.trans (hb2.mono hB1.size)
  clear v0 v1 v2 v3 hnu1 HEU hb2 hB1 HD1
  go_wp2_with fail
  go_ret2
  exact ⟨rfl, hB2⟩

set_option maxRecDepth 4000 in
set_option maxHeartbeats 4000000 in
theorem put_small (base d gp cp : Nat) (ps : List (Option Addr)) (f : List Pg) (next : Int) (e : Ent) (k i : Nat) (w : World) (hD : Draft w base d gp cp ps f next) (hT : treeB f next = true) (hbase : base ≤ w.heap.size) (hkk : place f e = k) (hk : k < f.length) (hP : PlaceE f[k].es e i false) (hsmall : f[k].es.length < 4) :
    Calls Try.prog 48 #[.pointer (some ⟨d, 0, none⟩), .agg #[.string e.key, .int .i64 e.id]] w fun e' w' => (e' = .returned (.tuple #[.int .i64 0, .int .i64 0]) ∧ DraftE w' base d (putP f k i e) next) ∧ Below base w w' := by
  have hb0 : Below w.heap.size w (w.alloc (.cells #[.string e.key, .int .i64 e.id] 40)) := (Below.refl _ _).alloc (Nat.le_refl _) _
  have d0 : (w.alloc (.cells #[.string e.key, .int .i64 e.id] 40)).cell? ⟨w.heap.size, 0, none⟩ = some (.string e.key) := by simp [go_sem]
  have d1 : (w.alloc (.cells #[.string e.key, .int .i64 e.id] 40)).cell? ⟨w.heap.size, 1, none⟩ = some (.int .i64 e.id) := by simp [go_sem]
  have l0 : w.heap.size < (w.alloc (.cells #[.string e.key, .int .i64 e.id] 40)).heap.size := by simp
  have h60 := ((treeB_iff f next).1 hT).1
  have hsm := tree_small hT
  have hs4 := hsm f[k] (List.getElem_mem _)
  have hk2 : (k : Int) < (f.length : Int) := by omega
  have hi : i ≤ f[k].es.length := hP.le
  have HD0 : Hid (Draft _ _ _ _ _ _ _ _) := hD.next hb0
  have HPL : Hid (∀ W : World, PtrP W gp f → Calls _ _ _ W _) := fun W hW => pagePlace_any gp cp f e W hW (by omega) (by omega) (fun l hl => Nat.le_trans (hsm l hl) (by omega)) (tree_some hT)
  obtain ⟨b, o, q, c, hpi, hpg, hpd, hpgp, hpq⟩ := hD.pages k hk
  have HPP : Hid (∀ W : World, Below w.heap.size w W → PgC W b o q c f[k]) := fun W hW => hpg.next hW
  have HQ : Hid (∀ b' o', q = some ⟨b', o', none⟩ → b' ≠ d ∧ b' ≠ gp) := hpq
  have HPE : Hid (∀ W : World, PageAtA W b o f[k] → Calls _ _ _ W _) := fun W hW => entryPlace_at b o f[k] e i false W hW (page_rise hT hk) (by omega) hP
  have HPI : Hid (ps[k]? = some (some ⟨b, o, none⟩)) := hpi
  have hbd := hD.bd
  rw [hkk] at HPL
  have hbg : base ≤ gp := (hD.own.lt gp rfl).1
  clear hsm hD hT hP hkk hpg hpq hpi
  go_enter Try.func48, Try.ntmps48
  go_wp2_with fail
  generalize w.alloc (.cells #[.string e.key, .int .i64 e.id] 40) = W0 at hb0 d0 d1 l0 HD0 ⊢
  have hdl := HD0.out.lt
  have hgl : gp < W0.heap.size := (HD0.out.own.lt gp rfl).2
  have u0 : ∀ u : Under W0, u.x.cell? ⟨d, 0, none⟩ = some (.slice (some ⟨gp, 0, none⟩) f.length cp) := fun u => (u.h.cell hdl).trans HD0.out.c0
  have u1 : ∀ u : Under W0, u.x.cell? ⟨w.heap.size, 0, none⟩ = some (.string e.key) := fun u => (u.h.cell l0).trans d0
  have u2 : ∀ u : Under W0, u.x.cell? ⟨w.heap.size, 1, none⟩ = some (.int .i64 e.id) := fun u => (u.h.cell l0).trans d1
  have hnu : Nonempty (Under W0) := ⟨⟨W0, Below.refl _ _⟩⟩
  have HPU : Hid (∀ u : Under W0, Calls _ _ _ u.x _) := fun u => HPL.out u.x (HD0.out.next u.h).ptr
  have HP0 : Hid (W0.cell? ⟨gp, k, none⟩ = some (.pointer (some ⟨b, o, none⟩))) := HD0.out.cellP k _ HPI.out
  clear d0 d1
  refine wp_region_under (by kernel_rfl) (by kernel_rfl) ?_
  repeat (go_big_quiet_step ((go_at_call 58; exact calls_under _ (HPU.out _))))
  refine wpQuiet_nil ?_
  rintro _ ⟨u, rfl⟩
  obtain ⟨w1, hb1⟩ := u
  dsimp only
  have hdl1 : d < w1.heap.size := Nat.lt_of_lt_of_le hdl hb1.size
  have hgl1 : gp < w1.heap.size := Nat.lt_of_lt_of_le hgl hb1.size
  have l1 : w.heap.size < w1.heap.size := Nat.lt_of_lt_of_le l0 hb1.size
  have v0 : ∀ u : Under w1, u.x.cell? ⟨d, 0, none⟩ = some (.slice (some ⟨gp, 0, none⟩) f.length cp) := fun u => (u.h.cell hdl1).trans (u0 ⟨w1, hb1⟩)
  have v1 : ∀ u : Under w1, u.x.cell? ⟨w.heap.size, 0, none⟩ = some (.string e.key) := fun u => (u.h.cell l1).trans (u1 ⟨w1, hb1⟩)
  have v2 : ∀ u : Under w1, u.x.cell? ⟨w.heap.size, 1, none⟩ = some (.int .i64 e.id) := fun u => (u.h.cell l1).trans (u2 ⟨w1, hb1⟩)
  have v3 : ∀ u : Under w1, u.x.cell? ⟨gp, k, none⟩ = some (.pointer (some ⟨b, o, none⟩)) := fun u => (u.h.cell hgl1).trans ((hb1.cell hgl).trans HP0.out)
  have hB1 : Below w.heap.size w w1 := hb0.trans (hb1.mono hb0.size)
  have HD1 : Hid (Draft w1 base d gp cp ps f next) := HD0.out.next hb1
  have hnu1 : Nonempty (Under w1) := ⟨⟨w1, Below.refl _ _⟩⟩
  have HEU : Hid (∀ u : Under w1, Calls _ _ _ u.x _) := fun u => HPE.out u.x (HPP.out u.x (hB1.trans (u.h.mono hB1.size))).pageAt
  clear u0 u1 u2 hnu HPU HP0 HPL HPE HD0 hb1 hb0 hdl hgl l0
  go_wp2_with fail
  refine wp_region_under (by kernel_rfl) (by kernel_rfl) ?_
  repeat (go_big_quiet_step ((go_at_call 94; exact calls_under _ (HEU.out _))))
  refine wpQuiet_nil ?_
  rintro _ ⟨u, rfl⟩
  obtain ⟨w2, hb2⟩ := u
  dsimp only
  have hB2 : Below w.heap.size w w2 := hB1.trans (hb2.mono hB1.size)
  have D2 := HD1.out.next hb2
  have HD2 : Hid (Draft w2 base d gp cp ps f next) := D2
  have g0 := D2.c0
  have g1 := D2.cellP k _ HPI.out
  have hdl2 := D2.lt
  have hgl2 : gp < w2.heap.size := (D2.own.lt gp rfl).2
  have g2 := own_soft D2.own k
  have g3 := D2.c1
  have y3 := D2.z0
  have y4 := D2.z1
  have l2 : w.heap.size < w2.heap.size := Nat.lt_of_lt_of_le l1 hb2.size
  have e0 := (hb2.cell l1).trans (v1 ⟨w1, Below.refl _ _⟩)
  have e1 := (hb2.cell l1).trans (v2 ⟨w1, Below.refl _ _⟩)
  have HW2 : Hid (Below w.heap.size w w2) := hB2
  have hz2 := hB2.size
  clear v0 v1 v2 v3 hnu1 HEU hb2 hB1 HD1 D2 hB2 hdl1 hgl1 l1
  go_wp2_with fail
  have hlen5 : (insE f[k].es i e).length = f[k].es.length + 1 := insE_len f[k].es i e hi
  obtain ⟨L, hL⟩ : ∃ L, L = (insE f[k].es i e).length := ⟨_, rfl⟩
  have HL : Hid (L = (insE f[k].es i e).length) := hL
  have hLl : L = f[k].es.length + 1 := hL.trans hlen5
  clear hL hlen5
  go_cut [9] (fun s9 wx => ∃ b6 g6 c6, s9 = .pointer (some ⟨b6, 0, none⟩) ∧ w2.heap.size ≤ b6 ∧ w2.heap.size ≤ g6 ∧ PgC wx b6 0 (some ⟨g6, 0, none⟩) c6 ⟨f[k].num, insE f[k].es i e⟩ ∧ Below w2.heap.size w2 wx)
  case first =>
    go_region_with (go_at_call 95; refine (pageWith_pg b o q c i f[k] e _ ((HPP.out w2 HW2.out).next (by (repeat (first | (with_reducible exact Below.refl _ _) | (with_reducible assumption) | (with_reducible apply below_drewN) | (with_reducible apply Below.drew) | ((with_reducible refine Below.setCell ?_ ?_ _); rotate_left; focus (first | (simp; done) | (simp; omega) | omega)) | ((with_reducible refine Below.alloc ?_ ?_ _); rotate_left; focus (first | (simp; done) | (simp; omega) | omega)))))) hi hs4).mono ?_; rintro e' w6 ⟨⟨b6, g6, c6, rfl, hb6g, hg6g, hp6⟩, hb6⟩; have hB6 : Below w2.heap.size w2 w6 := (show Below w2.heap.size w2 _ by (repeat (first | (with_reducible exact Below.refl _ _) | (with_reducible assumption) | (with_reducible apply below_drewN) | (with_reducible apply Below.drew) | ((with_reducible refine Below.setCell ?_ ?_ _); rotate_left; focus (first | (simp; done) | (simp; omega) | omega)) | ((with_reducible refine Below.alloc ?_ ?_ _); rotate_left; focus (first | (simp; done) | (simp; omega) | omega))))).trans (hb6.mono (by simp)); have HP6 : Hid (PgC w6 b6 0 (some ⟨g6, 0, none⟩) c6 ⟨f[k].num, insE f[k].es i e⟩) := hp6; have hb6h : w2.heap.size ≤ b6 := Nat.le_trans (by simp) hb6g; have hg6h : w2.heap.size ≤ g6 := Nat.le_trans (by simp) hg6g; clear hb6 hp6 hb6g hg6g)
    all_goals
      try go_wp2_with fail
      go_meet
      exact ⟨b6, g6, c6, rfl, hb6h, hg6h, HP6.out, hB6⟩
  case rest =>
  obtain ⟨b6, g6, c6, rfl, hb6h, hg6h, hp6, hB6⟩ := hcut
  have HP6 : Hid (PgC wc b6 0 (some ⟨g6, 0, none⟩) c6 ⟨f[k].num, insE f[k].es i e⟩) := hp6
  have x6 := hp6.row
  simp only at x6
  rw [← HL.out] at x6
  have hbl6 := hp6.lt
  have D6 := HD2.out.next hB6
  have HD6 : Hid (Draft wc base d gp cp ps f next) := D6
  have k0 := D6.c0
  have k1 := D6.c1
  have k2 := D6.cellP k _ HPI.out
  have k3 := own_soft D6.own k
  have hdl6 := D6.lt
  have hgl6 : gp < wc.heap.size := (D6.own.lt gp rfl).2
  have hz6 := hB6.size
  have HB6 : Hid (Below w.heap.size w wc) := HW2.out.trans (hB6.mono hz2)
  clear hp6 D6 hB6 HD2 HW2 e0 e1 g0 g1 g2 g3 y3 y4
  have hL4 : (L : Int) ≤ 4 := by omega
  clear hLl
  go_wp2_with fail
  go_ret2
  refine ⟨⟨rfl, ?_⟩, (HB6.out.mono hbase).setCell hbg _⟩
  unfold putP
  rw [List.getElem?_eq_getElem hk]
  exact ⟨_, _, _, HD6.out.set hk HP6.out (by omega) (by omega) (fun x y hx => by cases hx; exact ⟨by omega, by omega⟩)⟩

set_option maxRecDepth 4000 in
set_option maxHeartbeats 4000000 in
theorem put_full (base d gp cp : Nat) (ps : List (Option Addr)) (f : List Pg) (next : Int) (e : Ent) (k i : Nat) (w : World) (hD : Draft w base d gp cp ps f next) (hT : treeB f next = true) (hbase : base ≤ w.heap.size) (hkk : place f e = k) (hk : k < f.length) (hP : PlaceE f[k].es e i false) (hfour : f[k].es.length = 4) (hfull : f.length = 60 ∨ next = 100000) :
    Calls Try.prog 48 #[.pointer (some ⟨d, 0, none⟩), .agg #[.string e.key, .int .i64 e.id]] w fun e' w' => e' = .returned (.tuple #[.int .i64 0, .int .i64 7]) ∧ Below w.heap.size w w' := by
  have hb0 : Below w.heap.size w (w.alloc (.cells #[.string e.key, .int .i64 e.id] 40)) := (Below.refl _ _).alloc (Nat.le_refl _) _
  have d0 : (w.alloc (.cells #[.string e.key, .int .i64 e.id] 40)).cell? ⟨w.heap.size, 0, none⟩ = some (.string e.key) := by simp [go_sem]
  have d1 : (w.alloc (.cells #[.string e.key, .int .i64 e.id] 40)).cell? ⟨w.heap.size, 1, none⟩ = some (.int .i64 e.id) := by simp [go_sem]
  have l0 : w.heap.size < (w.alloc (.cells #[.string e.key, .int .i64 e.id] 40)).heap.size := by simp
  have h60 := ((treeB_iff f next).1 hT).1
  have hsm := tree_small hT
  have hs4 := hsm f[k] (List.getElem_mem _)
  have hk2 : (k : Int) < (f.length : Int) := by omega
  have hi : i ≤ f[k].es.length := hP.le
  have HD0 : Hid (Draft _ _ _ _ _ _ _ _) := hD.next hb0
  have HPL : Hid (∀ W : World, PtrP W gp f → Calls _ _ _ W _) := fun W hW => pagePlace_any gp cp f e W hW (by omega) (by omega) (fun l hl => Nat.le_trans (hsm l hl) (by omega)) (tree_some hT)
  obtain ⟨b, o, q, c, hpi, hpg, hpd, hpgp, hpq⟩ := hD.pages k hk
  have HPP : Hid (∀ W : World, Below w.heap.size w W → PgC W b o q c f[k]) := fun W hW => hpg.next hW
  have HQ : Hid (∀ b' o', q = some ⟨b', o', none⟩ → b' ≠ d ∧ b' ≠ gp) := hpq
  have HPE : Hid (∀ W : World, PageAtA W b o f[k] → Calls _ _ _ W _) := fun W hW => entryPlace_at b o f[k] e i false W hW (page_rise hT hk) (by omega) hP
  have HPI : Hid (ps[k]? = some (some ⟨b, o, none⟩)) := hpi
  have hbd := hD.bd
  rw [hkk] at HPL
  have hbg : base ≤ gp := (hD.own.lt gp rfl).1
  clear hsm hD hT hP hkk hpg hpq hpi
  go_enter Try.func48, Try.ntmps48
  go_wp2_with fail
  generalize w.alloc (.cells #[.string e.key, .int .i64 e.id] 40) = W0 at hb0 d0 d1 l0 HD0 ⊢
  have hdl := HD0.out.lt
  have hgl : gp < W0.heap.size := (HD0.out.own.lt gp rfl).2
  have u0 : ∀ u : Under W0, u.x.cell? ⟨d, 0, none⟩ = some (.slice (some ⟨gp, 0, none⟩) f.length cp) := fun u => (u.h.cell hdl).trans HD0.out.c0
  have u1 : ∀ u : Under W0, u.x.cell? ⟨w.heap.size, 0, none⟩ = some (.string e.key) := fun u => (u.h.cell l0).trans d0
  have u2 : ∀ u : Under W0, u.x.cell? ⟨w.heap.size, 1, none⟩ = some (.int .i64 e.id) := fun u => (u.h.cell l0).trans d1
  have hnu : Nonempty (Under W0) := ⟨⟨W0, Below.refl _ _⟩⟩
  have HPU : Hid (∀ u : Under W0, Calls _ _ _ u.x _) := fun u => HPL.out u.x (HD0.out.next u.h).ptr
  have HP0 : Hid (W0.cell? ⟨gp, k, none⟩ = some (.pointer (some ⟨b, o, none⟩))) := HD0.out.cellP k _ HPI.out
  clear d0 d1
  refine wp_region_under (by kernel_rfl) (by kernel_rfl) ?_
  repeat (go_big_quiet_step ((go_at_call 58; exact calls_under _ (HPU.out _))))
  refine wpQuiet_nil ?_
  rintro _ ⟨u, rfl⟩
  obtain ⟨w1, hb1⟩ := u
  dsimp only
  have hdl1 : d < w1.heap.size := Nat.lt_of_lt_of_le hdl hb1.size
  have hgl1 : gp < w1.heap.size := Nat.lt_of_lt_of_le hgl hb1.size
  have l1 : w.heap.size < w1.heap.size := Nat.lt_of_lt_of_le l0 hb1.size
  have v0 : ∀ u : Under w1, u.x.cell? ⟨d, 0, none⟩ = some (.slice (some ⟨gp, 0, none⟩) f.length cp) := fun u => (u.h.cell hdl1).trans (u0 ⟨w1, hb1⟩)
  have v1 : ∀ u : Under w1, u.x.cell? ⟨w.heap.size, 0, none⟩ = some (.string e.key) := fun u => (u.h.cell l1).trans (u1 ⟨w1, hb1⟩)
  have v2 : ∀ u : Under w1, u.x.cell? ⟨w.heap.size, 1, none⟩ = some (.int .i64 e.id) := fun u => (u.h.cell l1).trans (u2 ⟨w1, hb1⟩)
  have v3 : ∀ u : Under w1, u.x.cell? ⟨gp, k, none⟩ = some (.pointer (some ⟨b, o, none⟩)) := fun u => (u.h.cell hgl1).trans ((hb1.cell hgl).trans HP0.out)
  have hB1 : Below w.heap.size w w1 := hb0.trans (hb1.mono hb0.size)
  have HD1 : Hid (Draft w1 base d gp cp ps f next) := HD0.out.next hb1
  have hnu1 : Nonempty (Under w1) := ⟨⟨w1, Below.refl _ _⟩⟩
  have HEU : Hid (∀ u : Under w1, Calls _ _ _ u.x _) := fun u => HPE.out u.x (HPP.out u.x (hB1.trans (u.h.mono hB1.size))).pageAt
  clear u0 u1 u2 hnu HPU HP0 HPL HPE HD0 hb1 hb0 hdl hgl l0
  go_wp2_with fail
  refine wp_region_under (by kernel_rfl) (by kernel_rfl) ?_
  repeat (go_big_quiet_step ((go_at_call 94; exact calls_under _ (HEU.out _))))
  refine wpQuiet_nil ?_
  rintro _ ⟨u, rfl⟩
  obtain ⟨w2, hb2⟩ := u
  dsimp only
  have hB2 : Below w.heap.size w w2 := hB1.trans (hb2.mono hB1.size)
  have D2 := HD1.out.next hb2
  have HD2 : Hid (Draft w2 base d gp cp ps f next) := D2
  have g0 := D2.c0
  have g1 := D2.cellP k _ HPI.out
  have hdl2 := D2.lt
  have hgl2 : gp < w2.heap.size := (D2.own.lt gp rfl).2
  have g2 := own_soft D2.own k
  have g3 := D2.c1
  have y3 := D2.z0
  have y4 := D2.z1
  have l2 : w.heap.size < w2.heap.size := Nat.lt_of_lt_of_le l1 hb2.size
  have e0 := (hb2.cell l1).trans (v1 ⟨w1, Below.refl _ _⟩)
  have e1 := (hb2.cell l1).trans (v2 ⟨w1, Below.refl _ _⟩)
  have HW2 : Hid (Below w.heap.size w w2) := hB2
  have hz2 := hB2.size
  clear v0 v1 v2 v3 hnu1 HEU hb2 hB1 HD1 D2 hB2 hdl1 hgl1 l1
  go_wp2_with fail
  have hlen5 : (insE f[k].es i e).length = f[k].es.length + 1 := insE_len f[k].es i e hi
  obtain ⟨L, hL⟩ : ∃ L, L = (insE f[k].es i e).length := ⟨_, rfl⟩
  have HL : Hid (L = (insE f[k].es i e).length) := hL
  have hLl : L = f[k].es.length + 1 := hL.trans hlen5
  clear hL hlen5
  go_cut [9] (fun s9 wx => ∃ b6 g6 c6, s9 = .pointer (some ⟨b6, 0, none⟩) ∧ w2.heap.size ≤ b6 ∧ w2.heap.size ≤ g6 ∧ PgC wx b6 0 (some ⟨g6, 0, none⟩) c6 ⟨f[k].num, insE f[k].es i e⟩ ∧ Below w2.heap.size w2 wx)
  case first =>
    go_region_with (go_at_call 95; refine (pageWith_pg b o q c i f[k] e _ ((HPP.out w2 HW2.out).next (by (repeat (first | (with_reducible exact Below.refl _ _) | (with_reducible assumption) | (with_reducible apply below_drewN) | (with_reducible apply Below.drew) | ((with_reducible refine Below.setCell ?_ ?_ _); rotate_left; focus (first | (simp; done) | (simp; omega) | omega)) | ((with_reducible refine Below.alloc ?_ ?_ _); rotate_left; focus (first | (simp; done) | (simp; omega) | omega)))))) hi hs4).mono ?_; rintro e' w6 ⟨⟨b6, g6, c6, rfl, hb6g, hg6g, hp6⟩, hb6⟩; have hB6 : Below w2.heap.size w2 w6 := (show Below w2.heap.size w2 _ by (repeat (first | (with_reducible exact Below.refl _ _) | (with_reducible assumption) | (with_reducible apply below_drewN) | (with_reducible apply Below.drew) | ((with_reducible refine Below.setCell ?_ ?_ _); rotate_left; focus (first | (simp; done) | (simp; omega) | omega)) | ((with_reducible refine Below.alloc ?_ ?_ _); rotate_left; focus (first | (simp; done) | (simp; omega) | omega))))).trans (hb6.mono (by simp)); have HP6 : Hid (PgC w6 b6 0 (some ⟨g6, 0, none⟩) c6 ⟨f[k].num, insE f[k].es i e⟩) := hp6; have hb6h : w2.heap.size ≤ b6 := Nat.le_trans (by simp) hb6g; have hg6h : w2.heap.size ≤ g6 := Nat.le_trans (by simp) hg6g; clear hb6 hp6 hb6g hg6g)
    all_goals
      try go_wp2_with fail
      go_meet
      exact ⟨b6, g6, c6, rfl, hb6h, hg6h, HP6.out, hB6⟩
  case rest =>
  obtain ⟨b6, g6, c6, rfl, hb6h, hg6h, hp6, hB6⟩ := hcut
  have HP6 : Hid (PgC wc b6 0 (some ⟨g6, 0, none⟩) c6 ⟨f[k].num, insE f[k].es i e⟩) := hp6
  have x6 := hp6.row
  simp only at x6
  rw [← HL.out] at x6
  have hbl6 := hp6.lt
  have D6 := HD2.out.next hB6
  have HD6 : Hid (Draft wc base d gp cp ps f next) := D6
  have k0 := D6.c0
  have k1 := D6.c1
  have k2 := D6.cellP k _ HPI.out
  have k3 := own_soft D6.own k
  have hdl6 := D6.lt
  have hgl6 : gp < wc.heap.size := (D6.own.lt gp rfl).2
  have hz6 := hB6.size
  have HB6 : Hid (Below w.heap.size w wc) := HW2.out.trans (hB6.mono hz2)
  clear hp6 D6 hB6 HD2 HW2 e0 e1 g0 g1 g2 g3 y3 y4
  have hL4 : ¬ ((L : Int) ≤ 4) := by omega
  clear hLl
  rcases hfull with h6 | h6
  · have h6' : (f.length : Int) = 60 := by omega
    have h6b : ((f.length : Int) == 60) = true := by simp; omega
    clear h6
    go_wp2_with fail
    go_ret2
    exact ⟨rfl, HB6.out⟩
  · by_cases h7 : f.length = 60
    · have h6' : (f.length : Int) = 60 := by omega
      have h6b : ((f.length : Int) == 60) = true := by simp; omega
      clear h6 h7
      go_wp2_with fail
      go_ret2
      exact ⟨rfl, HB6.out⟩
    · have h7b : ((f.length : Int) == 60) = false := beq_eq_false_iff_ne.mpr (by omega)
      have h6b : (next == 100000) = true := by simp [h6]
      go_wp2_with fail
      go_ret2
      exact ⟨rfl, HB6.out⟩

set_option maxRecDepth 4000 in
set_option maxHeartbeats 4000000 in
theorem put_split (base d gp cp : Nat) (ps : List (Option Addr)) (f : List Pg) (next : Int) (e : Ent) (k i : Nat) (w : World) (hD : Draft w base d gp cp ps f next) (hT : treeB f next = true) (hbase : base ≤ w.heap.size) (hkk : place f e = k) (hk : k < f.length) (hP : PlaceE f[k].es e i false) (hfour : f[k].es.length = 4) (hl60 : f.length < 60) (hnx : next < 100000) (hn2 : 2 ≤ next) :
    Calls Try.prog 48 #[.pointer (some ⟨d, 0, none⟩), .agg #[.string e.key, .int .i64 e.id]] w fun e' w' => (e' = .returned (.tuple #[.int .i64 next, .int .i64 0]) ∧ DraftE w' base d (splitP f next k i e) (next + 1)) ∧ Below base w w' := by
  have hb0 : Below w.heap.size w (w.alloc (.cells #[.string e.key, .int .i64 e.id] 40)) := (Below.refl _ _).alloc (Nat.le_refl _) _
  have d0 : (w.alloc (.cells #[.string e.key, .int .i64 e.id] 40)).cell? ⟨w.heap.size, 0, none⟩ = some (.string e.key) := by simp [go_sem]
  have d1 : (w.alloc (.cells #[.string e.key, .int .i64 e.id] 40)).cell? ⟨w.heap.size, 1, none⟩ = some (.int .i64 e.id) := by simp [go_sem]
  have l0 : w.heap.size < (w.alloc (.cells #[.string e.key, .int .i64 e.id] 40)).heap.size := by simp
  have h60 := ((treeB_iff f next).1 hT).1
  have hsm := tree_small hT
  have hs4 := hsm f[k] (List.getElem_mem _)
  have hk2 : (k : Int) < (f.length : Int) := by omega
  have hi : i ≤ f[k].es.length := hP.le
  have HD0 : Hid (Draft _ _ _ _ _ _ _ _) := hD.next hb0
  have HPL : Hid (∀ W : World, PtrP W gp f → Calls _ _ _ W _) := fun W hW => pagePlace_any gp cp f e W hW (by omega) (by omega) (fun l hl => Nat.le_trans (hsm l hl) (by omega)) (tree_some hT)
  obtain ⟨b, o, q, c, hpi, hpg, hpd, hpgp, hpq⟩ := hD.pages k hk
  have HPP : Hid (∀ W : World, Below w.heap.size w W → PgC W b o q c f[k]) := fun W hW => hpg.next hW
  have HQ : Hid (∀ b' o', q = some ⟨b', o', none⟩ → b' ≠ d ∧ b' ≠ gp) := hpq
  have HPE : Hid (∀ W : World, PageAtA W b o f[k] → Calls _ _ _ W _) := fun W hW => entryPlace_at b o f[k] e i false W hW (page_rise hT hk) (by omega) hP
  have HPI : Hid (ps[k]? = some (some ⟨b, o, none⟩)) := hpi
  have hbd := hD.bd
  rw [hkk] at HPL
  have hbg : base ≤ gp := (hD.own.lt gp rfl).1
  clear hsm hD hT hP hkk hpg hpq hpi
  go_enter Try.func48, Try.ntmps48
  go_wp2_with fail
  generalize w.alloc (.cells #[.string e.key, .int .i64 e.id] 40) = W0 at hb0 d0 d1 l0 HD0 ⊢
  have hdl := HD0.out.lt
  have hgl : gp < W0.heap.size := (HD0.out.own.lt gp rfl).2
  have u0 : ∀ u : Under W0, u.x.cell? ⟨d, 0, none⟩ = some (.slice (some ⟨gp, 0, none⟩) f.length cp) := fun u => (u.h.cell hdl).trans HD0.out.c0
  have u1 : ∀ u : Under W0, u.x.cell? ⟨w.heap.size, 0, none⟩ = some (.string e.key) := fun u => (u.h.cell l0).trans d0
  have u2 : ∀ u : Under W0, u.x.cell? ⟨w.heap.size, 1, none⟩ = some (.int .i64 e.id) := fun u => (u.h.cell l0).trans d1
  have hnu : Nonempty (Under W0) := ⟨⟨W0, Below.refl _ _⟩⟩
  have HPU : Hid (∀ u : Under W0, Calls _ _ _ u.x _) := fun u => HPL.out u.x (HD0.out.next u.h).ptr
  have HP0 : Hid (W0.cell? ⟨gp, k, none⟩ = some (.pointer (some ⟨b, o, none⟩))) := HD0.out.cellP k _ HPI.out
  clear d0 d1
  refine wp_region_under (by kernel_rfl) (by kernel_rfl) ?_
  repeat (go_big_quiet_step ((go_at_call 58; exact calls_under _ (HPU.out _))))
  refine wpQuiet_nil ?_
  rintro _ ⟨u, rfl⟩
  obtain ⟨w1, hb1⟩ := u
  dsimp only
  have hdl1 : d < w1.heap.size := Nat.lt_of_lt_of_le hdl hb1.size
  have hgl1 : gp < w1.heap.size := Nat.lt_of_lt_of_le hgl hb1.size
  have l1 : w.heap.size < w1.heap.size := Nat.lt_of_lt_of_le l0 hb1.size
  have v0 : ∀ u : Under w1, u.x.cell? ⟨d, 0, none⟩ = some (.slice (some ⟨gp, 0, none⟩) f.length cp) := fun u => (u.h.cell hdl1).trans (u0 ⟨w1, hb1⟩)
  have v1 : ∀ u : Under w1, u.x.cell? ⟨w.heap.size, 0, none⟩ = some (.string e.key) := fun u => (u.h.cell l1).trans (u1 ⟨w1, hb1⟩)
  have v2 : ∀ u : Under w1, u.x.cell? ⟨w.heap.size, 1, none⟩ = some (.int .i64 e.id) := fun u => (u.h.cell l1).trans (u2 ⟨w1, hb1⟩)
  have v3 : ∀ u : Under w1, u.x.cell? ⟨gp, k, none⟩ = some (.pointer (some ⟨b, o, none⟩)) := fun u => (u.h.cell hgl1).trans ((hb1.cell hgl).trans HP0.out)
  have hB1 : Below w.heap.size w w1 := hb0.trans (hb1.mono hb0.size)
  have HD1 : Hid (Draft w1 base d gp cp ps f next) := HD0.out.next hb1
  have hnu1 : Nonempty (Under w1) := ⟨⟨w1, Below.refl _ _⟩⟩
  have HEU : Hid (∀ u : Under w1, Calls _ _ _ u.x _) := fun u => HPE.out u.x (HPP.out u.x (hB1.trans (u.h.mono hB1.size))).pageAt
  clear u0 u1 u2 hnu HPU HP0 HPL HPE HD0 hb1 hb0 hdl hgl l0
  go_wp2_with fail
  refine wp_region_under (by kernel_rfl) (by kernel_rfl) ?_
  repeat (go_big_quiet_step ((go_at_call 94; exact calls_under _ (HEU.out _))))
  refine wpQuiet_nil ?_
  rintro _ ⟨u, rfl⟩
  obtain ⟨w2, hb2⟩ := u
  dsimp only
  have hB2 : Below w.heap.size w w2 := hB1.trans (hb2.mono hB1.size)
  have D2 := HD1.out.next hb2
  have HD2 : Hid (Draft w2 base d gp cp ps f next) := D2
  have g0 := D2.c0
  have g1 := D2.cellP k _ HPI.out
  have hdl2 := D2.lt
  have hgl2 : gp < w2.heap.size := (D2.own.lt gp rfl).2
  have g2 := own_soft D2.own k
  have g3 := D2.c1
  have y3 := D2.z0
  have y4 := D2.z1
  have l2 : w.heap.size < w2.heap.size := Nat.lt_of_lt_of_le l1 hb2.size
  have e0 := (hb2.cell l1).trans (v1 ⟨w1, Below.refl _ _⟩)
  have e1 := (hb2.cell l1).trans (v2 ⟨w1, Below.refl _ _⟩)
  have HW2 : Hid (Below w.heap.size w w2) := hB2
  have hz2 := hB2.size
  clear v0 v1 v2 v3 hnu1 HEU hb2 hB1 HD1 D2 hB2 hdl1 hgl1 l1
  go_wp2_with fail
  have hlen5 : (insE f[k].es i e).length = f[k].es.length + 1 := insE_len f[k].es i e hi
  obtain ⟨L, hL⟩ : ∃ L, L = (insE f[k].es i e).length := ⟨_, rfl⟩
  have HL : Hid (L = (insE f[k].es i e).length) := hL
  have hLl : L = f[k].es.length + 1 := hL.trans hlen5
  clear hL hlen5
  go_cut [9] (fun s9 wx => ∃ b6 g6 c6, s9 = .pointer (some ⟨b6, 0, none⟩) ∧ w2.heap.size ≤ b6 ∧ w2.heap.size ≤ g6 ∧ PgC wx b6 0 (some ⟨g6, 0, none⟩) c6 ⟨f[k].num, insE f[k].es i e⟩ ∧ Below w2.heap.size w2 wx)
  case first =>
    go_region_with (go_at_call 95; refine (pageWith_pg b o q c i f[k] e _ ((HPP.out w2 HW2.out).next (by (repeat (first | (with_reducible exact Below.refl _ _) | (with_reducible assumption) | (with_reducible apply below_drewN) | (with_reducible apply Below.drew) | ((with_reducible refine Below.setCell ?_ ?_ _); rotate_left; focus (first | (simp; done) | (simp; omega) | omega)) | ((with_reducible refine Below.alloc ?_ ?_ _); rotate_left; focus (first | (simp; done) | (simp; omega) | omega)))))) hi hs4).mono ?_; rintro e' w6 ⟨⟨b6, g6, c6, rfl, hb6g, hg6g, hp6⟩, hb6⟩; have hB6 : Below w2.heap.size w2 w6 := (show Below w2.heap.size w2 _ by (repeat (first | (with_reducible exact Below.refl _ _) | (with_reducible assumption) | (with_reducible apply below_drewN) | (with_reducible apply Below.drew) | ((with_reducible refine Below.setCell ?_ ?_ _); rotate_left; focus (first | (simp; done) | (simp; omega) | omega)) | ((with_reducible refine Below.alloc ?_ ?_ _); rotate_left; focus (first | (simp; done) | (simp; omega) | omega))))).trans (hb6.mono (by simp)); have HP6 : Hid (PgC w6 b6 0 (some ⟨g6, 0, none⟩) c6 ⟨f[k].num, insE f[k].es i e⟩) := hp6; have hb6h : w2.heap.size ≤ b6 := Nat.le_trans (by simp) hb6g; have hg6h : w2.heap.size ≤ g6 := Nat.le_trans (by simp) hg6g; clear hb6 hp6 hb6g hg6g)
    all_goals
      try go_wp2_with fail
      go_meet
      exact ⟨b6, g6, c6, rfl, hb6h, hg6h, HP6.out, hB6⟩
  case rest =>
  obtain ⟨b6, g6, c6, rfl, hb6h, hg6h, hp6, hB6⟩ := hcut
  have HP6 : Hid (PgC wc b6 0 (some ⟨g6, 0, none⟩) c6 ⟨f[k].num, insE f[k].es i e⟩) := hp6
  have x6 := hp6.row
  simp only at x6
  rw [← HL.out] at x6
  have hbl6 := hp6.lt
  have D6 := HD2.out.next hB6
  have HD6 : Hid (Draft wc base d gp cp ps f next) := D6
  have k0 := D6.c0
  have k1 := D6.c1
  have k2 := D6.cellP k _ HPI.out
  have k3 := own_soft D6.own k
  have hdl6 := D6.lt
  have hgl6 : gp < wc.heap.size := (D6.own.lt gp rfl).2
  have hz6 := hB6.size
  have HB6 : Hid (Below w.heap.size w wc) := HW2.out.trans (hB6.mono hz2)
  clear hp6 D6 hB6 HD2 HW2 e0 e1 g0 g1 g2 g3 y3 y4
  have hL4 : ¬ ((L : Int) ≤ 4) := by omega
  have h6b : ((f.length : Int) == 60) = false := beq_eq_false_iff_ne.mpr (by omega)
  have h7b : (next == 100000) = false := beq_eq_false_iff_ne.mpr (by omega)
  have hL5 : (insE f[k].es i e).length = 5 := by rw [← HL.out]; omega
  have HSP : Hid (∀ W : World, PgC W b6 0 (some ⟨g6, 0, none⟩) c6 ⟨f[k].num, insE f[k].es i e⟩ → Calls _ _ _ W _) := fun W hW => splitPage_pg b6 g6 c6 ⟨f[k].num, insE f[k].es i e⟩ next W hW hL5
  clear hLl hL5
  go_wp2_with fail
  refine (HSP.out _ HP6.out).mono ?_
  rintro e' w7 ⟨⟨b7, b8, rfl, hb7g, hb8g, hp7, hp8⟩, hb7⟩
  have HP7 : Hid (PgC _ _ _ _ _ _) := hp7
  have HP8 : Hid (PgC _ _ _ _ _ _) := hp8
  have D7 := HD6.out.next hb7
  have HD7 : Hid (Draft w7 base d gp cp ps f next) := D7
  have j0 := D7.c0
  have hdl7 := D7.lt
  have HB7 : Hid (Below w.heap.size w w7) := HB6.out.trans (hb7.mono HB6.out.size)
  have hz7 := hb7.size
  have hgl7 : gp < w7.heap.size := (D7.own.lt gp rfl).2
  have hg6l : g6 < w7.heap.size := by
    rcases hp7.form with ⟨h0, _⟩ | ⟨x, y, h0, hx⟩
    · cases h0
    · cases h0; exact hx
  have B8 : Below w7.heap.size w7 (w7.alloc (.cells #[.pointer (some ⟨b7, 0, none⟩), .pointer (some ⟨b8, 0, none⟩)] 91)) := (Below.refl _ _).alloc (Nat.le_refl _) _
  have D8 := D7.next B8
  have HD8 : Hid (Draft _ base d gp cp ps f next) := D8
  have HRP : Hid (Calls _ _ _ (w7.alloc (.cells #[.pointer (some ⟨b7, 0, none⟩), .pointer (some ⟨b8, 0, none⟩)] 91)) _) := replace_any gp cp f.length k ps (some ⟨b7, 0, none⟩) (some ⟨b8, 0, none⟩) w7.heap.size base _ D8.own hk (by omega) (by have := HB7.out.size; simp; omega) (heap_alloc_new w7 _) (by omega)
  have kw : IntKind.i64.wrap ((k : Int) + 1) = (k : Int) + 1 := by rw [IntKind.wrap_i64]; omega
  have HDW : Hid (Below w.heap.size w (w7.alloc (.cells #[.pointer (some ⟨b7, 0, none⟩), .pointer (some ⟨b8, 0, none⟩)] 91))) := HB7.out.trans (B8.mono HB7.out.size)
  have HP7' : Hid (PgC _ _ _ _ _ _) := hp7.next B8
  have HP8' : Hid (PgC _ _ _ _ _ _) := hp8.next B8
  have hnw : IntKind.i64.wrap (next + 1) = next + 1 := by rw [IntKind.wrap_i64]; omega
  have c8 := D8.c0
  have c9 := D8.c1
  have t8 := D8.z0
  have t9 := D8.z1
  have hdl8 := D8.lt
  clear hp7 hp8 D7 hb7 D8 B8 k0 k1 k2 k3 x6 HSP HP6 HD6 HP7 HP8
  go_wp2_with fail
  generalize w7.alloc (.cells #[.pointer (some ⟨b7, 0, none⟩), .pointer (some ⟨b8, 0, none⟩)] 91) = W8 at HRP HD8 HDW HP7' HP8' c8 c9 t8 t9 hdl8 ⊢
  refine HRP.out.mono ?_
  rintro e' w9 ⟨g9, cap9, rfl, ho9, hg9, hat9⟩
  have hdg := HD8.out.dg
  have hd9 : w9.heap[d]? = W8.heap[d]? := hg9.block d hdl8 (fun e => hdg (Option.some.inj e))
  have r0 : w9.cell? ⟨d, 0, none⟩ = some (.slice (some ⟨gp, 0, none⟩) f.length cp) := (World.cell?_of_block hd9).trans c8
  have r1 : w9.cell? ⟨d, 1, none⟩ = some (.int .i64 next) := (World.cell?_of_block hd9).trans c9
  have r2 : w9.frozen? ⟨d, 0, none⟩ = false := by rw [← t8]; simp only [World.frozen?, hd9]
  have r3 : w9.frozen? ⟨d, 1, none⟩ = false := by rw [← t9]; simp only [World.frozen?, hd9]
  have hB9 : Below base w w9 := Below.grown (HDW.out.mono hbase) hg9 (by have := HDW.out.size; omega) (fun x hx => by cases hx; exact hbg)
  have hlt7 := HP7'.out.lt
  have hlt8 := HP8'.out.lt
  have HDR : Hid (Draft _ base d g9 cap9 _ _ (next + 1)) := HD8.out.rep (nx' := next + 1) hk HP7'.out (by omega) (by omega) (fun x y hx => by cases hx; exact ⟨by omega, by omega, by rcases HP7'.out.form with ⟨h0, _⟩ | ⟨x, y, h0, hx⟩; (· cases h0); (· cases h0; exact hx)⟩) HP8'.out (by omega) (by omega) (fun x y hx => by cases hx; exact ⟨by omega, by omega, by rcases HP7'.out.form with ⟨h0, _⟩ | ⟨x, y, h0, hx⟩; (· cases h0); (· cases h0; exact hx)⟩) ho9 hg9 hat9
  clear ho9 hg9 hat9 HRP c8 c9 t8 t9 hd9
  go_wp2_with fail
  go_ret2
  refine ⟨⟨rfl, ?_⟩, (hB9.setCell hbd _).setCell hbd _⟩
  unfold splitP
  rw [List.getElem?_eq_getElem hk]
  exact ⟨_, _, _, HDR.out⟩

end Go.Proofs.Ytnmpfooegnmknaa.Tr
