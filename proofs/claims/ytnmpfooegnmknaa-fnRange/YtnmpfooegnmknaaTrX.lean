/- The number of an entry's page: what the program and the specification answer. -/
import Derived.Test.YtnmpfooegnmknaaTrW
namespace Go.Proofs.Ytnmpfooegnmknaa.Tr
open Go.RowKit
set_option linter.unusedVariables false

/-- The answer of PageAt: a number, and a code. -/
def pageAtT (f : List Pg) (next : Int) (e : Ent) : Int × Int := if (treeB f next && entB e) = true then ((f.getD (place f e) ⟨0, []⟩).num, 0) else (0, 1)
/-- A tree and an entry in the first two new blocks. -/
structure BoxTE (w W : World) (v : Value) (next : Int) (e : Ent) : Prop where
  bel : Below w.heap.size w W
  lt : w.heap.size + 1 < W.heap.size
  c0 : W.cell? ⟨w.heap.size, 0, none⟩ = some v
  c1 : W.cell? ⟨w.heap.size, 1, none⟩ = some (.int .i64 next)
  d0 : W.cell? ⟨w.heap.size + 1, 0, none⟩ = some (.string e.key)
  d1 : W.cell? ⟨w.heap.size + 1, 1, none⟩ = some (.int .i64 e.id)
theorem BoxTE.start (w : World) (v : Value) (next : Int) (e : Ent) (T U : TypeId) : BoxTE w ((w.alloc (.cells #[v, .int .i64 next] T)).alloc (.cells #[.string e.key, .int .i64 e.id] U)) v next e :=
  ⟨((Below.refl _ _).alloc (Nat.le_refl _) _).alloc (by simp) _, by simp, by simp [go_sem], by simp [go_sem], by simp [go_sem], by simp [go_sem]⟩
theorem BoxTE.step {w W W' : World} {v : Value} {next : Int} {e : Ent} (h : BoxTE w W v next e) (hb : Below W.heap.size W W') : BoxTE w W' v next e :=
  have hl : w.heap.size < W.heap.size := Nat.lt_of_succ_lt h.lt
  ⟨h.bel.trans (hb.mono h.bel.size), Nat.lt_of_lt_of_le h.lt hb.size, (hb.cell hl).trans h.c0, (hb.cell hl).trans h.c1, (hb.cell h.lt).trans h.d0, (hb.cell h.lt).trans h.d1⟩
theorem getD_of (f : List Pg) (k : Nat) (h : k < f.length) : f.getD k ⟨0, []⟩ = f[k] := by simp [List.getD, h]

set_option maxRecDepth 4000 in
set_option maxHeartbeats 2000000 in
theorem specPageAt_any (p : Option Addr) (cap : Nat) (f : List Pg) (next : Int) (e : Ent) (w : World) (hr : RowP w p f) (hl : f.length ≤ 1048576) (hs : ∀ l ∈ f, szP l) (hk : e.key.size ≤ 1048576) :
    Calls Try.prog 21 #[.agg #[.slice p f.length cap, .int .i64 next], .agg #[.string e.key, .int .i64 e.id]] w fun e' w' => e' = .returned (.tuple #[.int .i64 (pageAtT f next e).1, .int .i64 (pageAtT f next e).2]) ∧ Below w.heap.size w w' := by
  have X0 := BoxTE.start w (.slice p f.length cap) next e 37 40
  have HR : Hid (RowP _ _ _) := hr
  have HS : Hid _ := hs
  unfold pageAtT
  clear hr hs
  cases hT : treeB f next
  · rw [if_neg (by simp)]
    have HC : Hid (∀ W : World, Below w.heap.size w W → Calls _ _ _ W _) := fun W hW => specTreeOK_any p cap f next W (HR.out.next hW) hl HS.out
    have HQ : Hid _ := hT
    clear hT
    go_enter Try.func21, Try.ntmps21
    go_wp2_with fail
    refine (HC.out _ X0.bel).mono ?_
    rintro e' w1 ⟨rfl, hb1⟩
    rw [HQ.out]
    have X1 := X0.step hb1
    clear hb1 X0
    go_wp2_with fail
    go_ret2
    exact ⟨rfl, X1.bel⟩
  · obtain ⟨⟨h1, h2, h3, h4⟩, h5, _, _⟩ := tree_parts hT
    have HC : Hid (∀ W : World, Below w.heap.size w W → Calls _ _ _ W _) := fun W hW => specTreeOK_any p cap f next W (HR.out.next hW) hl HS.out
    have HE : Hid (∀ W : World, Calls _ _ _ W _) := fun W => specEntry_any e.key e.id W hk
    have HQ : Hid _ := hT
    clear hT
    cases hE : entB e
    · rw [if_neg (by simp)]
      have HQE : Hid (entB ⟨e.key, e.id⟩ = false) := hE
      clear hE h5
      go_enter Try.func21, Try.ntmps21
      go_wp2_with fail
      refine (HC.out _ X0.bel).mono ?_
      rintro e' w1 ⟨rfl, hb1⟩
      rw [HQ.out]
      have X1 := X0.step hb1
      obtain ⟨xb, xl, k0, k1, k2, k3⟩ := X1
      clear hb1 X0
      go_wp2_with fail
      refine (HE.out _).mono ?_
      rintro e' w2 ⟨rfl, hb2⟩
      rw [HQE.out]
      have B2 := xb.trans (hb2.mono xb.size)
      clear hb2
      go_wp2_with fail
      go_ret2
      exact ⟨rfl, B2⟩
    · rw [if_pos (show (true && true) = true from rfl)]
      have hpl := place_lt f e (by omega)
      have hpl2 : (place f e : Int) < (f.length : Int) := by omega
      rw [getD_of f _ hpl]
      have HQE : Hid (entB ⟨e.key, e.id⟩ = true) := hE
      have HP : Hid (∀ W : World, Below w.heap.size w W → Calls _ _ _ W _) := fun W hW => specPlace_any p cap f next e W (HR.out.next hW) hl h1 (fun l hm => (HS.out l hm).1)
      have HRD : Hid (∀ W : World, Below w.heap.size w W → ∃ g, p = some ⟨g, 0, none⟩ ∧ g < W.heap.size ∧ W.cell? ⟨g, place f e * 2, none⟩ = some (.int .i64 f[place f e].num)) := fun W hW => by
        rcases HR.out.next hW with h0 | ⟨g, hp, R1⟩
        · rw [h0] at h1; simp at h1
        · exact ⟨g, hp, R1.lt, (R1.cells _ hpl).1⟩
      obtain ⟨pn, hpn⟩ : ∃ pn, pn = f[place f e].num := ⟨_, rfl⟩
      rw [← hpn] at HRD ⊢
      obtain ⟨pk, hpk⟩ : ∃ pk, pk = place f e := ⟨_, rfl⟩
      rw [← hpk] at HRD HP hpl2
      clear hE h5 hpn hpk hpl
      go_enter Try.func21, Try.ntmps21
      go_wp2_with fail
      refine (HC.out _ X0.bel).mono ?_
      rintro e' w1 ⟨rfl, hb1⟩
      rw [HQ.out]
      have X1 := X0.step hb1
      obtain ⟨xb, xl, k0, k1, k2, k3⟩ := X1
      clear hb1 X0
      go_wp2_with fail
      refine (HE.out _).mono ?_
      rintro e' w2 ⟨rfl, hb2⟩
      rw [HQE.out]
      have B2 := xb.trans (hb2.mono xb.size)
      have xl1 : w.heap.size < w1.heap.size := by omega
      have m0 := (hb2.cell xl1).trans k0
      have m1 := (hb2.cell xl1).trans k1
      have m2 := (hb2.cell xl).trans k2
      have m3 := (hb2.cell xl).trans k3
      have yl := Nat.lt_of_lt_of_le xl hb2.size
      have yl1 : w.heap.size < w2.heap.size := by omega
      clear hb2 k0 k1 k2 k3 xb xl xl1
      obtain ⟨g, rfl, hgl, hgc⟩ := HRD.out _ B2
      have u0 : ∀ u : Under w2, u.x.cell? ⟨w.heap.size, 0, none⟩ = some (.slice (some ⟨g, 0, none⟩) f.length cap) := fun u => (u.h.cell yl1).trans m0
      have u1 : ∀ u : Under w2, u.x.cell? ⟨w.heap.size, 1, none⟩ = some (.int .i64 next) := fun u => (u.h.cell yl1).trans m1
      have u2 : ∀ u : Under w2, u.x.cell? ⟨w.heap.size + 1, 0, none⟩ = some (.string e.key) := fun u => (u.h.cell yl).trans m2
      have u3 : ∀ u : Under w2, u.x.cell? ⟨w.heap.size + 1, 1, none⟩ = some (.int .i64 e.id) := fun u => (u.h.cell yl).trans m3
      have u4 : ∀ u : Under w2, u.x.cell? ⟨g, pk * 2, none⟩ = some (.int .i64 pn) := fun u => (u.h.cell hgl).trans hgc
      have hnu : Nonempty (Under w2) := ⟨⟨w2, Below.refl _ _⟩⟩
      have HPU : Hid (∀ u : Under w2, Calls _ _ _ u.x _) := fun u => HP.out u.x (B2.trans (u.h.mono B2.size))
      clear m0 m1 m2 m3 hgc
      go_wp2_with fail
      refine wp_region_under (by kernel_rfl) (by kernel_rfl) ?_
      repeat (go_big_quiet_step ((go_at_call 59; exact calls_under _ (HPU.out _))))
      refine wpQuiet_nil ?_
      rintro _ ⟨u, rfl⟩
      go_wp2_with fail
      go_ret2
      exact ⟨rfl, B2.trans (u.h.mono B2.size)⟩

set_option maxRecDepth 4000 in
set_option maxHeartbeats 2000000 in
theorem pageAt_any (p : Option Addr) (cap : Nat) (f : List Pg) (next : Int) (e : Ent) (w : World) (hr : RowP w p f) (hl : f.length ≤ 1048576) (hcap : f.length ≤ cap) (hs : ∀ l ∈ f, szP l) (hk : e.key.size ≤ 1048576) :
    Calls Try.prog 20 #[.agg #[.slice p f.length cap, .int .i64 next], .agg #[.string e.key, .int .i64 e.id]] w fun e' w' => e' = .returned (.tuple #[.int .i64 (pageAtT f next e).1, .int .i64 (pageAtT f next e).2]) ∧ Below w.heap.size w w' := by
  have X0 := BoxTE.start w (.slice p f.length cap) next e 37 40
  have HR : Hid (RowP _ _ _) := hr
  have HS : Hid _ := hs
  unfold pageAtT
  clear hr hs
  cases hT : treeB f next
  · rw [if_neg (by simp)]
    have HC : Hid (∀ W : World, Below w.heap.size w W → Calls _ _ _ W _) := fun W hW => treeOK_any p cap f next W (HR.out.next hW) hl hcap HS.out
    have HQ : Hid _ := hT
    clear hT
    go_enter Try.func20, Try.ntmps20
    go_wp2_with fail
    refine (HC.out _ X0.bel).mono ?_
    rintro e' w1 ⟨rfl, hb1⟩
    rw [HQ.out]
    have X1 := X0.step hb1
    clear hb1 X0
    go_wp2_with fail
    go_ret2
    exact ⟨rfl, X1.bel⟩
  · obtain ⟨⟨h1, h2, h3, h4⟩, h5, _, _⟩ := tree_parts hT
    have HC : Hid (∀ W : World, Below w.heap.size w W → Calls _ _ _ W _) := fun W hW => treeOK_any p cap f next W (HR.out.next hW) hl hcap HS.out
    have HE : Hid (∀ W : World, Calls _ _ _ W _) := fun W => entryOK_any e.key e.id W hk
    have HQ : Hid _ := hT
    clear hT
    cases hE : entB e
    · rw [if_neg (by simp)]
      have HQE : Hid (entB ⟨e.key, e.id⟩ = false) := hE
      clear hE h5
      go_enter Try.func20, Try.ntmps20
      go_wp2_with fail
      refine (HC.out _ X0.bel).mono ?_
      rintro e' w1 ⟨rfl, hb1⟩
      rw [HQ.out]
      have X1 := X0.step hb1
      obtain ⟨xb, xl, k0, k1, k2, k3⟩ := X1
      clear hb1 X0
      go_wp2_with fail
      refine (HE.out _).mono ?_
      rintro e' w2 ⟨rfl, hb2⟩
      rw [HQE.out]
      have B2 := xb.trans (hb2.mono xb.size)
      clear hb2
      go_wp2_with fail
      go_ret2
      exact ⟨rfl, B2⟩
    · rw [if_pos (show (true && true) = true from rfl)]
      have hpl := place_lt f e (by omega)
      have hpl2 : (place f e : Int) < (f.length : Int) := by omega
      rw [getD_of f _ hpl]
      have HQE : Hid (entB ⟨e.key, e.id⟩ = true) := hE
      obtain ⟨g, rfl⟩ : ∃ g, p = some ⟨g, 0, none⟩ := by
        rcases HR.out with h0 | ⟨g, hp, _⟩
        · rw [h0] at h1; simp at h1
        · exact ⟨g, hp⟩
      have HRD : Hid (ReadP w g f) := by
        rcases HR.out with h0 | ⟨g', hp, R1⟩
        · rw [h0] at h1; simp at h1
        · injection hp with hp; injection hp with hp; subst hp; exact R1
      have HPT : Hid (∀ W : World, Calls _ _ _ W _) := fun W => pointersTo_any g cap f.length W h2
      have HNE : Hid (1 < f.length → ∀ l ∈ f, 0 < l.es.length) := fun hh l hm => by have := (h5 l hm).2; omega
      obtain ⟨pn, hpn⟩ : ∃ pn, pn = f[place f e].num := ⟨_, rfl⟩
      obtain ⟨pk, hpk⟩ : ∃ pk, pk = place f e := ⟨_, rfl⟩
      have HPN : Hid (pn = f[place f e].num) := hpn
      have HPK : Hid (pk = place f e) := hpk
      rw [← hpn]
      rw [← hpk] at hpl2
      have HPL : Hid _ := hpl
      clear hE h5 hpn hpk HR
      go_enter Try.func20, Try.ntmps20
      go_wp2_with fail
      refine (HC.out _ X0.bel).mono ?_
      rintro e' w1 ⟨rfl, hb1⟩
      rw [HQ.out]
      have X1 := X0.step hb1
      obtain ⟨xb, xl, k0, k1, k2, k3⟩ := X1
      clear hb1 X0
      go_wp2_with fail
      refine (HE.out _).mono ?_
      rintro e' w2 ⟨rfl, hb2⟩
      rw [HQE.out]
      have B2 := xb.trans (hb2.mono xb.size)
      have xl1 : w.heap.size < w1.heap.size := by omega
      have m0 := (hb2.cell xl1).trans k0
      have m2 := (hb2.cell xl).trans k2
      have m3 := (hb2.cell xl).trans k3
      have yl := Nat.lt_of_lt_of_le xl hb2.size
      clear hb2 k0 k1 k2 k3 xb xl xl1
      go_wp2_with fail
      refine (HPT.out _).mono ?_
      rintro e' w3 ⟨⟨v, rfl, hown⟩, hb3⟩
      obtain ⟨gp, pc, rfl, hg1, hg2, hg3, hg4⟩ := owns_form hown (by omega)
      have B3 := B2.trans (hb3.mono B2.size)
      have n2 := (hb3.cell yl).trans m2
      have n3 := (hb3.cell yl).trans m3
      have HPP : Hid (PtrP w3 gp f) := owns_ptr hown rfl rfl (HRD.out.next B3)
      clear hb3 m0 m2 m3 hown B2
      go_wp2_with fail
      refine (pagePlace_any gp pc f e w3 HPP.out hl h1 (fun l hm => (HS.out l hm).1) HNE.out).mono ?_
      rintro e' w4 ⟨rfl, hb4⟩
      rw [← HPK.out]
      obtain ⟨b, o, z0, z1, z2, _⟩ := (HPP.out.next hb4).cells (place f e) HPL.out
      rw [← HPK.out] at z0
      rw [← HPN.out] at z2
      have B4 := B3.trans (hb4.mono B3.size)
      clear hb4 HPP
      go_wp2_with fail
      go_ret2
      exact ⟨rfl, B4⟩

end Go.Proofs.Ytnmpfooegnmknaa.Tr
