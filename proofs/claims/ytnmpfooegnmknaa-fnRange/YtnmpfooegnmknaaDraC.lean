/- An entry dropped from a draft: what the program answers. -/
import Derived.Test.YtnmpfooegnmknaaDraB
import Derived.Deep.DeepCutAuto
namespace Go.Proofs.Ytnmpfooegnmknaa.Tr
open Go.RowKit
set_option linter.unusedVariables false

theorem tree_keys {f : List Pg} {next : Int} (h : treeB f next = true) : ∀ p ∈ f, ∀ e ∈ p.es, e.key.size ≤ 1048576 := by
  intro p hp e he
  have h8 := ((treeB_iff f next).1 h).2.2.2.2
  have := (((chainB_iff _ _).1 h8).1 e (mem_allE.2 ⟨p, hp, he⟩)).1
  unfold entB at this
  simp only [Bool.and_eq_true, decide_eq_true_eq] at this
  omega
theorem tree_small {f : List Pg} {next : Int} (h : treeB f next = true) : ∀ p ∈ f, p.es.length ≤ 4 := fun p hp => (((treeB_iff f next).1 h).2.1 p hp).1
theorem tree_some {f : List Pg} {next : Int} (h : treeB f next = true) : 1 < f.length → ∀ l ∈ f, 0 < l.es.length := fun h1 l hl => (((treeB_iff f next).1 h).2.1 l hl).2 h1
theorem pageWithout_pg (b o : Nat) (q : Option Addr) (c i : Nat) (p : Pg) (w : World) (hp : PgC w b o q c p) (hi : i < p.es.length) (hl : p.es.length ≤ 4) :
    Calls Try.prog 100 #[.pointer (some ⟨b, o, none⟩), .int .i64 i] w fun e' w' => (∃ b' q' c', e' = .returned (.pointer (some ⟨b', 0, none⟩)) ∧ w.heap.size ≤ b' ∧ PgC w' b' 0 q' c' ⟨p.num, p.es.eraseIdx i⟩ ∧ (∀ x y, q' = some ⟨x, y, none⟩ → (∃ y', q = some ⟨x, y', none⟩) ∨ w.heap.size ≤ x)) ∧ Below w.heap.size w w' := by
  obtain ⟨g, off, rfl, hgl, hcs⟩ := hp.ents.resolve_left (by omega)
  refine (pageWithout_any b o g off c i p w hp.lt hp.num hp.row hp.ents hi hp.cap hl).mono ?_
  rintro e' w' ⟨⟨b', g', o', c', rfl, h1, h2, h3, h4, h5, h6, h7, h8⟩, hb⟩
  refine ⟨⟨b', _, c', rfl, h1, ⟨h2, h3, h4, h7, h5, .inr ⟨g', o', rfl, h8⟩⟩, fun x y hx => ?_⟩, hb⟩
  cases hx
  rcases h6 with h6 | h6
  · exact .inl ⟨off, by rw [h6]⟩
  · exact .inr h6

set_option maxRecDepth 4000 in
set_option maxHeartbeats 4000000 in
theorem drop_none (base d gp cp : Nat) (ps : List (Option Addr)) (f : List Pg) (next : Int) (e : Ent) (k i : Nat) (w : World) (hD : Draft w base d gp cp ps f next) (hT : treeB f next = true) (hbase : base ≤ w.heap.size) (hkk : place f e = k) (hk : k < f.length) (hP : PlaceE f[k].es e i false) :
    Calls Try.prog 54 #[.pointer (some ⟨d, 0, none⟩), .agg #[.string e.key, .int .i64 e.id]] w fun e' w' => e' = .returned (.int .i64 5) ∧ Below w.heap.size w w' := by
  have hb0 : Below w.heap.size w (w.alloc (.cells #[.string e.key, .int .i64 e.id] 40)) := (Below.refl _ _).alloc (Nat.le_refl _) _
  have d0 : (w.alloc (.cells #[.string e.key, .int .i64 e.id] 40)).cell? ⟨w.heap.size, 0, none⟩ = some (.string e.key) := by simp [go_sem]
  have d1 : (w.alloc (.cells #[.string e.key, .int .i64 e.id] 40)).cell? ⟨w.heap.size, 1, none⟩ = some (.int .i64 e.id) := by simp [go_sem]
  have l0 : w.heap.size < (w.alloc (.cells #[.string e.key, .int .i64 e.id] 40)).heap.size := by simp
  have h60 := ((treeB_iff f next).1 hT).1
  have hsm := tree_small hT
  have hs4 := hsm f[k] (List.getElem_mem _)
  have hk2 : (k : Int) < (f.length : Int) := by omega
  have HD0 : Hid (Draft _ _ _ _ _ _ _ _) := hD.next hb0
  have HPL : Hid (∀ W : World, PtrP W gp f → Calls _ _ _ W _) := fun W hW => pagePlace_any gp cp f e W hW (by omega) (by omega) (fun l hl => Nat.le_trans (hsm l hl) (by omega)) (tree_some hT)
  obtain ⟨b, o, q, c, hpi, _, _⟩ := hD.pages k hk
  have HPP : Hid (∀ W : World, Below w.heap.size w W → PageAtA W b o f[k]) := fun W hW => by
    obtain ⟨b', o', q', c', hpi', hp', _⟩ := (hD.next hW).pages k hk
    rw [hpi] at hpi'; cases hpi'; exact hp'.pageAt
  have HPE : Hid (∀ W : World, PageAtA W b o f[k] → Calls _ _ _ W _) := fun W hW => entryPlace_at b o f[k] e i false W hW (page_rise hT hk) (by omega) hP
  rw [hkk] at HPL
  clear hsm hD hT hP hkk
  go_enter Try.func54, Try.ntmps54
  go_wp2_with fail
  generalize w.alloc (.cells #[.string e.key, .int .i64 e.id] 40) = W0 at hb0 d0 d1 l0 HD0 ⊢
  have hdl := HD0.out.lt
  have hgl : gp < W0.heap.size := (HD0.out.own.lt gp rfl).2
  have u0 : ∀ u : Under W0, u.x.cell? ⟨d, 0, none⟩ = some (.slice (some ⟨gp, 0, none⟩) f.length cp) := fun u => (u.h.cell hdl).trans HD0.out.c0
  have u1 : ∀ u : Under W0, u.x.cell? ⟨w.heap.size, 0, none⟩ = some (.string e.key) := fun u => (u.h.cell l0).trans d0
  have u2 : ∀ u : Under W0, u.x.cell? ⟨w.heap.size, 1, none⟩ = some (.int .i64 e.id) := fun u => (u.h.cell l0).trans d1
  have hnu : Nonempty (Under W0) := ⟨⟨W0, Below.refl _ _⟩⟩
  have HPU : Hid (∀ u : Under W0, Calls _ _ _ u.x _) := fun u => HPL.out u.x (HD0.out.next u.h).ptr
  have HP0 : Hid (W0.cell? ⟨gp, k, none⟩ = some (.pointer (some ⟨b, o, none⟩))) := HD0.out.cellP k _ hpi
  clear d0 d1
  refine wp_region_under (by kernel_rfl) (by kernel_rfl) ?_
  repeat (go_big_quiet_step ((go_at_call 58; exact calls_under _ (HPU.out _))))
  refine wpQuiet_nil ?_
  rintro _ ⟨u, rfl⟩
  obtain ⟨w1, hb1⟩ := u
  dsimp only
  have hdl1 : d < w1.heap.size := Nat.lt_of_lt_of_le hdl hb1.size
  have hgl1 : gp < w1.heap.size := Nat.lt_of_lt_of_le hgl hb1.size
  have l1 : w.heap.size < w1.heap.size := Nat.lt_of_lt_of_le l0 hb1.size
  have v0 : ∀ u : Under w1, u.x.cell? ⟨d, 0, none⟩ = some (.slice (some ⟨gp, 0, none⟩) f.length cp) := fun u => (u.h.cell hdl1).trans (u0 ⟨w1, hb1⟩)
  have v1 : ∀ u : Under w1, u.x.cell? ⟨w.heap.size, 0, none⟩ = some (.string e.key) := fun u => (u.h.cell l1).trans (u1 ⟨w1, hb1⟩)
  have v2 : ∀ u : Under w1, u.x.cell? ⟨w.heap.size, 1, none⟩ = some (.int .i64 e.id) := fun u => (u.h.cell l1).trans (u2 ⟨w1, hb1⟩)
  have v3 : ∀ u : Under w1, u.x.cell? ⟨gp, k, none⟩ = some (.pointer (some ⟨b, o, none⟩)) := fun u => (u.h.cell hgl1).trans ((hb1.cell hgl).trans HP0.out)
  have hB1 : Below w.heap.size w w1 := hb0.trans (hb1.mono hb0.size)
  have hnu1 : Nonempty (Under w1) := ⟨⟨w1, Below.refl _ _⟩⟩
  have HEU : Hid (∀ u : Under w1, Calls _ _ _ u.x _) := fun u => HPE.out u.x (HPP.out u.x (hB1.trans (u.h.mono hB1.size)))
  clear u0 u1 u2 hnu HPU HP0 HPL HPE HPP HD0 hb1 hb0 hdl hgl l0
  go_wp2_with fail
  refine wp_region_under (by kernel_rfl) (by kernel_rfl) ?_
  repeat (go_big_quiet_step ((go_at_call 94; exact calls_under _ (HEU.out _))))
  refine wpQuiet_nil ?_
  rintro _ ⟨u, rfl⟩
  obtain ⟨w2, hb2⟩ := u
  dsimp only
  have hB2 : Below w.heap.size w w2 := hB1.trans (hb2.mono hB1.size)
  clear v0 v1 v2 v3 hnu1 HEU hb2 hB1
  go_wp2_with fail
  go_ret
  exact ⟨rfl, hB2⟩

set_option maxRecDepth 4000 in
set_option maxHeartbeats 4000000 in
theorem drop_there (base d gp cp : Nat) (ps : List (Option Addr)) (f : List Pg) (next : Int) (e : Ent) (k i : Nat) (w : World) (hD : Draft w base d gp cp ps f next) (hT : treeB f next = true) (hbase : base ≤ w.heap.size) (hkk : place f e = k) (hk : k < f.length) (hP : PlaceE f[k].es e i true) :
    Calls Try.prog 54 #[.pointer (some ⟨d, 0, none⟩), .agg #[.string e.key, .int .i64 e.id]] w fun e' w' => (e' = .returned (.int .i64 0) ∧ DraftE w' base d (dropP f k i) next) ∧ Below base w w' := by
  have hb0 : Below w.heap.size w (w.alloc (.cells #[.string e.key, .int .i64 e.id] 40)) := (Below.refl _ _).alloc (Nat.le_refl _) _
  have d0 : (w.alloc (.cells #[.string e.key, .int .i64 e.id] 40)).cell? ⟨w.heap.size, 0, none⟩ = some (.string e.key) := by simp [go_sem]
  have d1 : (w.alloc (.cells #[.string e.key, .int .i64 e.id] 40)).cell? ⟨w.heap.size, 1, none⟩ = some (.int .i64 e.id) := by simp [go_sem]
  have l0 : w.heap.size < (w.alloc (.cells #[.string e.key, .int .i64 e.id] 40)).heap.size := by simp
  have h60 := ((treeB_iff f next).1 hT).1
  have hsm := tree_small hT
  have hs4 := hsm f[k] (List.getElem_mem _)
  have hk2 : (k : Int) < (f.length : Int) := by omega
  have hi : i < f[k].es.length := (hP.at_.1 rfl).1
  have HD0 : Hid (Draft _ _ _ _ _ _ _ _) := hD.next hb0
  have HPL : Hid (∀ W : World, PtrP W gp f → Calls _ _ _ W _) := fun W hW => pagePlace_any gp cp f e W hW (by omega) (by omega) (fun l hl => Nat.le_trans (hsm l hl) (by omega)) (tree_some hT)
  obtain ⟨b, o, q, c, hpi, hpg, hpd, hpgp, hpq⟩ := hD.pages k hk
  have HPP : Hid (∀ W : World, Below w.heap.size w W → PgC W b o q c f[k]) := fun W hW => hpg.next hW
  have HQ : Hid (∀ b' o', q = some ⟨b', o', none⟩ → b' ≠ d ∧ b' ≠ gp) := hpq
  have HPE : Hid (∀ W : World, PageAtA W b o f[k] → Calls _ _ _ W _) := fun W hW => entryPlace_at b o f[k] e i true W hW (page_rise hT hk) (by omega) hP
  have HPI : Hid (ps[k]? = some (some ⟨b, o, none⟩)) := hpi
  have hbd := hD.bd
  rw [hkk] at HPL
  have hdp : dropP f k i = if f[k].es.length = 1 ∧ 1 < f.length then f.eraseIdx k else f.set k ⟨f[k].num, f[k].es.eraseIdx i⟩ := by
    unfold dropP; rw [List.getElem?_eq_getElem hk]
  have HDP : Hid (dropP f k i = if f[k].es.length = 1 ∧ 1 < f.length then f.eraseIdx k else f.set k ⟨f[k].num, f[k].es.eraseIdx i⟩) := hdp
  have hbg : base ≤ gp := (hD.own.lt gp rfl).1
  clear hsm hD hT hP hkk hdp hpg hpq hpi
  go_enter Try.func54, Try.ntmps54
  go_wp2_with fail
  generalize w.alloc (.cells #[.string e.key, .int .i64 e.id] 40) = W0 at hb0 d0 d1 l0 HD0 ⊢
  have hdl := HD0.out.lt
  have hgl : gp < W0.heap.size := (HD0.out.own.lt gp rfl).2
  have u0 : ∀ u : Under W0, u.x.cell? ⟨d, 0, none⟩ = some (.slice (some ⟨gp, 0, none⟩) f.length cp) := fun u => (u.h.cell hdl).trans HD0.out.c0
  have u1 : ∀ u : Under W0, u.x.cell? ⟨w.heap.size, 0, none⟩ = some (.string e.key) := fun u => (u.h.cell l0).trans d0
  have u2 : ∀ u : Under W0, u.x.cell? ⟨w.heap.size, 1, none⟩ = some (.int .i64 e.id) := fun u => (u.h.cell l0).trans d1
  have hnu : Nonempty (Under W0) := ⟨⟨W0, Below.refl _ _⟩⟩
  have HPU : Hid (∀ u : Under W0, Calls _ _ _ u.x _) := fun u => HPL.out u.x (HD0.out.next u.h).ptr
  have HP0 : Hid (W0.cell? ⟨gp, k, none⟩ = some (.pointer (some ⟨b, o, none⟩))) := HD0.out.cellP k _ HPI.out
  clear d0 d1
  refine wp_region_under (by kernel_rfl) (by kernel_rfl) ?_
  repeat (go_big_quiet_step ((go_at_call 58; exact calls_under _ (HPU.out _))))
  refine wpQuiet_nil ?_
  rintro _ ⟨u, rfl⟩
  obtain ⟨w1, hb1⟩ := u
  dsimp only
  have hdl1 : d < w1.heap.size := Nat.lt_of_lt_of_le hdl hb1.size
  have hgl1 : gp < w1.heap.size := Nat.lt_of_lt_of_le hgl hb1.size
  have l1 : w.heap.size < w1.heap.size := Nat.lt_of_lt_of_le l0 hb1.size
  have v0 : ∀ u : Under w1, u.x.cell? ⟨d, 0, none⟩ = some (.slice (some ⟨gp, 0, none⟩) f.length cp) := fun u => (u.h.cell hdl1).trans (u0 ⟨w1, hb1⟩)
  have v1 : ∀ u : Under w1, u.x.cell? ⟨w.heap.size, 0, none⟩ = some (.string e.key) := fun u => (u.h.cell l1).trans (u1 ⟨w1, hb1⟩)
  have v2 : ∀ u : Under w1, u.x.cell? ⟨w.heap.size, 1, none⟩ = some (.int .i64 e.id) := fun u => (u.h.cell l1).trans (u2 ⟨w1, hb1⟩)
  have v3 : ∀ u : Under w1, u.x.cell? ⟨gp, k, none⟩ = some (.pointer (some ⟨b, o, none⟩)) := fun u => (u.h.cell hgl1).trans ((hb1.cell hgl).trans HP0.out)
  have hB1 : Below w.heap.size w w1 := hb0.trans (hb1.mono hb0.size)
  have HD1 : Hid (Draft w1 base d gp cp ps f next) := HD0.out.next hb1
  have hnu1 : Nonempty (Under w1) := ⟨⟨w1, Below.refl _ _⟩⟩
  have HEU : Hid (∀ u : Under w1, Calls _ _ _ u.x _) := fun u => HPE.out u.x (HPP.out u.x (hB1.trans (u.h.mono hB1.size))).pageAt
  clear u0 u1 u2 hnu HPU HP0 HPL HPE HD0 hb1 hb0 hdl hgl l0
  go_wp2_with fail
  refine wp_region_under (by kernel_rfl) (by kernel_rfl) ?_
  repeat (go_big_quiet_step ((go_at_call 94; exact calls_under _ (HEU.out _))))
  refine wpQuiet_nil ?_
  rintro _ ⟨u, rfl⟩
  obtain ⟨w2, hb2⟩ := u
  dsimp only
  have hB2 : Below w.heap.size w w2 := hB1.trans (hb2.mono hB1.size)
  have D2 := HD1.out.next hb2
  have HD2 : Hid (Draft w2 base d gp cp ps f next) := D2
  have g0 := D2.c0
  have g1 := D2.cellP k _ HPI.out
  have hdl2 := D2.lt
  have hgl2 : gp < w2.heap.size := (D2.own.lt gp rfl).2
  have g2 := own_soft D2.own k
  have HW2 : Hid (Below w.heap.size w w2) := hB2
  have hz2 := hB2.size
  clear v0 v1 v2 v3 hnu1 HEU hb2 hB1 HD1 D2 hB2 hdl1 hgl1 l1
  go_wp2_with fail
  go_cut [] (fun wx => ∃ b6, Draft wx base d gp cp (ps.set k (some ⟨b6, 0, none⟩)) (f.set k ⟨f[k].num, f[k].es.eraseIdx i⟩) next ∧ Below base w wx)
  case first =>
    go_region_law (first
      | (go_simp; go_wp2_with (go_at_call 100; refine (pageWithout_pg b o q c i f[k] _ ((HPP.out w2 HW2.out).next (by (repeat (first | (with_reducible exact Below.refl _ _) | (with_reducible assumption) | (with_reducible apply below_drewN) | (with_reducible apply Below.drew) | ((with_reducible refine Below.setCell ?_ ?_ _); rotate_left; focus (first | (simp; done) | (simp; omega) | omega)) | ((with_reducible refine Below.alloc ?_ ?_ _); rotate_left; focus (first | (simp; done) | (simp; omega) | omega)))))) hi hs4).mono ?_; rintro e' w6 ⟨⟨b6, q6, c6, rfl, hb6g, hp6, hq6⟩, hb6⟩; have hB6 : Below w2.heap.size w2 w6 := (show Below w2.heap.size w2 _ by (repeat (first | (with_reducible exact Below.refl _ _) | (with_reducible assumption) | (with_reducible apply below_drewN) | (with_reducible apply Below.drew) | ((with_reducible refine Below.setCell ?_ ?_ _); rotate_left; focus (first | (simp; done) | (simp; omega) | omega)) | ((with_reducible refine Below.alloc ?_ ?_ _); rotate_left; focus (first | (simp; done) | (simp; omega) | omega))))).trans (hb6.mono (by simp)); have HP6 : Hid (PgC w6 b6 0 q6 c6 ⟨f[k].num, f[k].es.eraseIdx i⟩) := hp6; have HQ6 : Hid (∀ x y, q6 = some ⟨x, y, none⟩ → (∃ y', q = some ⟨x, y', none⟩) ∨ w2.heap.size ≤ x) := (fun x y hx => (hq6 x y hx).imp id (fun h => Nat.le_trans (by simp) h)); have n0 := (hB6.cell hdl2).trans g0; have n1 := (hB6.cell hgl2).trans g1; have n2 := (hB6.frozen (p := ⟨gp, k, none⟩) hgl2).trans g2; have hb6h : w2.heap.size ≤ b6 := Nat.le_trans (by simp) hb6g; have hz6 := hB6.size; clear hb6 hp6 hq6 hb6g)))
    all_goals
      try go_wp2_with fail
      go_meet
      refine ⟨b6, (HD2.out.next hB6).set hk HP6.out (by omega) (by omega) (fun x y hx => ?_), ?_⟩
      · rcases HQ6.out x y hx with ⟨y', hy⟩ | hy
        · exact HQ.out x y' hy
        · omega
      · exact ((HW2.out.trans (hB6.mono hz2)).mono hbase).setCell hbg _
  case rest =>
    obtain ⟨b6, hD6, hB6⟩ := hcut
    have HD6 : Hid (Draft wc base d gp cp (ps.set k (some ⟨b6, 0, none⟩)) (f.set k ⟨f[k].num, f[k].es.eraseIdx i⟩) next) := hD6
    have x0 := hD6.c0
    rw [List.length_set] at x0
    have hkl : k < ps.length := by
      rcases Nat.lt_or_ge k ps.length with h | h
      · exact h
      · have := HPI.out; rw [List.getElem?_eq_none h] at this; cases this
    have x1 := hD6.cellP k (some ⟨b6, 0, none⟩) (List.getElem?_set_self hkl)
    obtain ⟨b7, o7, q7, c7, hp7, hg7, _⟩ := hD6.pages k (by rw [List.length_set]; exact hk)
    rw [List.getElem?_set_self hkl] at hp7
    cases hp7
    rw [List.getElem_set_self] at hg7
    have x2 := hg7.row
    have hdl6 := hD6.lt
    have hgl6 : gp < wc.heap.size := (hD6.own.lt gp rfl).2
    have hbl6 := hg7.lt
    have y0 := hD6.z0
    have hle : (f[k].es.eraseIdx i).length = f[k].es.length - 1 := List.length_eraseIdx_of_lt hi
    obtain ⟨L, hL⟩ : ∃ L, L = (f[k].es.eraseIdx i).length := ⟨_, rfl⟩
    have hlL : L = f[k].es.length - 1 := hL.trans hle
    simp only at x2
    rw [← hL] at x2
    have HL : Hid (L = f[k].es.length - 1) := hlL
    have hHo := hD6.holds
    rw [List.length_set] at hHo
    have HB6 : Hid (Below base w wc) := hB6
    rcases (show (f[k].es.length = 1 ∧ 1 < f.length) ∨ ¬ (f[k].es.length = 1 ∧ 1 < f.length) by omega) with hA | hA
    · have hL0 : L = 0 := by omega
      subst hL0
      have hf1 : (1 : Int) < (f.length : Int) := by omega
      have hcut := Draft.cut (q := 0) hD6 (k := k) (by rw [List.length_set]; exact hk)
      have HCUT : Hid (∀ q, Draft ((Sort.putRow Value.pointer (Sort.ahead wc q) gp 0 ((ps.set k (some ⟨b6, 0, none⟩)).take k ++ (ps.set k (some ⟨b6, 0, none⟩)).drop (k + 1) ++ List.replicate (k + 1 - k) none).toArray).setCell ⟨d, 0, none⟩ (.slice (some ⟨gp, 0, none⟩) (f.length - 1) cp)) base d gp cp (ps.eraseIdx k) (f.eraseIdx k) next) := fun q => by
        have h := Draft.cut (q := q) HD6.out (k := k) (by rw [List.length_set]; exact hk)
        rw [List.length_set, List.eraseIdx_set_eq, List.eraseIdx_set_eq] at h
        exact h
      have hds : (ps.set k (some ⟨b6, 0, none⟩)).toArray.size = f.length := by
        have := HD6.out.plen; rw [List.length_set] at this; simpa using this
      have HDEL : Hid (Calls _ _ _ wc _) := delete_any gp 0 cp k (k + 1) (ps.set k (some ⟨b6, 0, none⟩)).toArray wc hHo.1 (by rw [hds]; exact hHo.2.1) (by have := hHo.2.2; unfold maxLen at this; omega) (by omega) (by rw [hds]; omega)
      rw [hds] at HDEL
      have qw : IntKind.i64.wrap ((k : Int) + 1) = (k : Int) + 1 := by rw [IntKind.wrap_i64]; omega
      have hcast : (((k + 1 : Nat)) : Int) = (k : Int) + 1 := by omega
      rw [hcast] at HDEL
      have hdc := HD6.out.dg
      have HDP2 : Hid (dropP f k i = f.eraseIdx k) := HDP.out.trans (if_pos hA)
      clear hcut hHo hD6 hB6 hg7 hL hle hlL hds hcast hA HL HDP
      go_wp2_with fail
      refine HDEL.out.mono ?_
      rintro e' w8 ⟨rfl, q8, hw8⟩
      have h1 : f.length - (k + 1 - k) = f.length - 1 := by omega
      rw [h1]
      have e8 : w8.cell? ⟨d, 0, none⟩ = some (.slice (some ⟨gp, 0, none⟩) f.length cp) := by
        rw [hw8]; exact (World.cell?_of_block (grown_putRow.block d hdl6 (fun e => hdc (Option.some.inj e)))).trans x0
      have z8 : w8.frozen? ⟨d, 0, none⟩ = false := by
        rw [hw8]; have := (grown_putRow (w := wc) (g := gp) (q := q8) (ds := ((ps.set k (some ⟨b6, 0, none⟩)).toArray.toList.take k ++ (ps.set k (some ⟨b6, 0, none⟩)).toArray.toList.drop (k + 1) ++ List.replicate (k + 1 - k) none).toArray)).block d hdl6 (fun e => hdc (Option.some.inj e))
        simp only [World.frozen?, this]; exact y0
      have hB8 : Below base w w8 := by rw [hw8]; exact Lib.below_putRow HB6.out hbg
      have HW8 : Hid (w8 = _) := hw8
      clear hw8
      go_wp2_with fail
      go_ret
      refine ⟨⟨rfl, ?_⟩, hB8.setCell hbd _⟩
      rw [HDP2.out]
      have := HCUT.out q8
      rw [HW8.out]
      exact ⟨_, _, _, this⟩
    · have HDP2 : Hid (dropP f k i = f.set k ⟨f[k].num, f[k].es.eraseIdx i⟩) := HDP.out.trans (if_neg hA)
      have hL0 : ¬ ((L : Int) = 0) ∨ ((L : Int) = 0 ∧ ¬ (1 : Int) < (f.length : Int)) := by omega
      clear hHo hD6 hB6 hg7 hL hle hlL hA HL HDP
      rcases hL0 with hL1 | ⟨hL1, hL2⟩
      · go_wp2_with fail
        go_ret
        exact ⟨⟨rfl, by rw [HDP2.out]; exact ⟨_, _, _, HD6.out⟩⟩, HB6.out⟩
      · go_wp2_with fail
        go_ret
        exact ⟨⟨rfl, by rw [HDP2.out]; exact ⟨_, _, _, HD6.out⟩⟩, HB6.out⟩

end Go.Proofs.Ytnmpfooegnmknaa.Tr
