/- An entry dropped from a tree: the specification's answer. -/
import Derived.Test.YtaohljkmnojiiaaPutE
namespace Go.Proofs.Ytaohljkmnojiiaa.Tr
open Go.RowKit
set_option linter.unusedVariables false

/-- What becomes of a tree from which an entry is dropped: its pages, its next number, the code. -/
def DropR (f : List Pg) (next : Int) (e : Ent) (f' : List Pg) (next' code : Int) : Prop :=
  if treeB f next = true ∧ entB e = true then
    next' = next ∧ ((code = 5 ∧ f' = f ∧ ∀ p, f[place f e]? = some p → ∀ x ∈ p.es, x ≠ e) ∨ (code = 0 ∧ ∃ i p, f[place f e]? = some p ∧ p.es[i]? = some e ∧ f' = dropP f (place f e) i))
  else f' = [] ∧ next' = 0 ∧ code = 1
theorem DropR.uniq {f : List Pg} {next : Int} {e : Ent} {f1 f2 : List Pg} {n1 n2 c1 c2 : Int} (h1 : DropR f next e f1 n1 c1) (h2 : DropR f next e f2 n2 c2) : f1 = f2 ∧ n1 = n2 ∧ c1 = c2 := by
  unfold DropR at h1 h2
  split at h1
  · rename_i hT
    rw [if_pos hT] at h2
    obtain ⟨rfl, h1⟩ := h1
    obtain ⟨rfl, h2⟩ := h2
    rcases h1 with ⟨rfl, rfl, ha⟩ | ⟨rfl, i, p, hp, hi, rfl⟩ <;> rcases h2 with ⟨rfl, rfl, hb⟩ | ⟨rfl, j, p2, hp2, hj, rfl⟩
    · exact ⟨rfl, rfl, rfl⟩
    · exact absurd rfl (ha p2 hp2 e (List.mem_of_getElem? hj))
    · exact absurd rfl (hb p hp e (List.mem_of_getElem? hi))
    · rw [hp] at hp2; cases hp2
      obtain ⟨hk, hpe⟩ := List.getElem?_eq_some_iff.1 hp
      have hR := page_rise hT.1 hk
      rw [hpe] at hR
      obtain ⟨hi1, hi2⟩ := List.getElem?_eq_some_iff.1 hi
      obtain ⟨hj1, hj2⟩ := List.getElem?_eq_some_iff.1 hj
      have hij : i = j := by
        rcases Nat.lt_trichotomy i j with h | h | h
        · have := hR i j hi1 hj1 h; rw [hi2, hj2, lessE_irrefl] at this; cases this
        · exact h
        · have := hR j i hj1 hi1 h; rw [hi2, hj2, lessE_irrefl] at this; cases this
      subst hij
      exact ⟨rfl, rfl, rfl⟩
  · rename_i hT
    rw [if_neg hT] at h2
    exact ⟨h1.1.trans h2.1.symm, h1.2.1.trans h2.2.1.symm, h1.2.2.trans h2.2.2.symm⟩
theorem DropR.right {f : List Pg} {next : Int} {e : Ent} {f' : List Pg} {n code : Int} (h : DropR f next e f' n code) (hT : treeB f next = true ∧ entB e = true) : treeB f' next = true ∧ n = next := by
  unfold DropR at h
  rw [if_pos hT] at h
  obtain ⟨rfl, h⟩ := h
  rcases h with ⟨_, rfl, _⟩ | ⟨_, i, p, hp, hi, rfl⟩
  · exact ⟨hT.1, rfl⟩
  · obtain ⟨hk, rfl⟩ := List.getElem?_eq_some_iff.1 hp
    exact ⟨dropP_right hT.1 hk (List.getElem?_eq_some_iff.1 hi).1, rfl⟩
theorem ownT_none {w : World} {base : Nat} : OwnT w base (.slice none 0 0) [] :=
  ⟨fun _ => .slice none 0 0, [], ⟨⟨rfl, .inl ⟨rfl, rfl⟩⟩, fun i h => absurd h (by simp), fun i h => absurd h (by simp), fun i j h => absurd h (by simp), fun i h => absurd h (by simp)⟩⟩

/-- The specification's drop, with what it needs of the place left out. -/
theorem specDrop_at (p : Option Addr) (cap : Nat) (f : List Pg) (next : Int) (e : Ent) (w : World) (hr : RowP w p f) (hT : treeB f next = true) (hE : entB e = true)
    (hca : ∀ g pa ca i, p = some ⟨g, 0, none⟩ → (h : i < f.length) → w.cell? ⟨g, i * 2 + 1, none⟩ = some (.slice pa f[i].es.length ca) → f[i].es.length ≤ ca) :
    Calls Try.prog 87 #[.agg #[.slice p f.length cap, .int .i64 next], .agg #[.string e.key, .int .i64 e.id]] w fun e' w' => (∃ p' cap' f' code, e' = .returned (.tuple #[.agg #[.slice p' f'.length cap', .int .i64 next], .int .i64 code]) ∧ RowP w' p' f' ∧ DropR f next e f' next code) ∧ Below w.heap.size w w' := by
  have h1 := ((treeB_iff f next).1 hT).1
  have hk := place_lt f e (by omega)
  refine (specDrop_any p cap f next e (place f e) w hr hT rfl hk (fun g pa ca hp hc => hca g pa ca _ hp hk hc)).mono ?_
  rintro e' w' ⟨⟨p', cap', f', code, rfl, hR, hD⟩, hb⟩
  refine ⟨⟨p', cap', f', code, rfl, hR, ?_⟩, hb⟩
  unfold DropR
  rw [if_pos ⟨hT, hE⟩]
  refine ⟨rfl, ?_⟩
  rcases hD with ⟨rfl, rfl, hn⟩ | ⟨rfl, i, hi, he, rfl⟩
  · refine .inl ⟨rfl, rfl, fun q hq x hx => ?_⟩
    rw [List.getElem?_eq_getElem hk] at hq
    cases hq
    obtain ⟨j, hj, rfl⟩ := List.mem_iff_getElem.1 hx
    exact hn j hj
  · exact .inr ⟨rfl, i, _, List.getElem?_eq_getElem hk, (List.getElem?_eq_getElem hi).trans (by rw [he]), rfl⟩

set_option maxRecDepth 4000 in
set_option maxHeartbeats 1000000 in
theorem specTreeDrop_any (p : Option Addr) (cap : Nat) (f : List Pg) (next : Int) (e : Ent) (w : World) (hr : RowP w p f) (hl : f.length ≤ 1048576) (hs : ∀ l ∈ f, szP l) (hk : e.key.size ≤ 1048576)
    (hca : ∀ g pa ca i, p = some ⟨g, 0, none⟩ → (h : i < f.length) → w.cell? ⟨g, i * 2 + 1, none⟩ = some (.slice pa f[i].es.length ca) → f[i].es.length ≤ ca) :
    Calls Try.prog 43 #[.agg #[.slice p f.length cap, .int .i64 next], .agg #[.string e.key, .int .i64 e.id]] w fun e' w' => (∃ v f' n code, e' = .returned (.tuple #[.agg #[v, .int .i64 n], .int .i64 code]) ∧ OwnT w' w.heap.size v f' ∧ DropR f next e f' n code) ∧ Below w.heap.size w w' := by
  have M0 := MkD.start w (.slice p f.length cap) next e 37 40
  have HC : Hid (∀ W : World, Below w.heap.size w W → Calls _ _ _ W _) := fun W hW => specTreeOK_any p cap f next W (hr.next hW) hl hs
  have HE : Hid (∀ W : World, Calls _ _ _ W _) := fun W => specEntry_any e.key e.id W hk
  have HR : Hid (RowP _ _ _) := hr
  have HCA : Hid _ := hca
  clear hr hs hca
  cases hT : treeB f next
  · have HQ : Hid (treeB f next = false) := hT
    have HD : Hid (DropR f next e [] 0 1) := by
      show DropR f next e [] 0 1
      unfold DropR; rw [if_neg (by rw [hT]; simp)]; exact ⟨rfl, rfl, rfl⟩
    clear hT
    go_enter Try.func43, Try.ntmps43
    go_wp2_with fail
    refine (HC.out _ M0.bel).mono ?_
    rintro e' w1 ⟨rfl, hb1⟩
    rw [HQ.out]
    obtain ⟨mb, ml, mc0, mc1, mz0, mz1, md0, md1, mr0, mr1, my0, my1⟩ := M0.next hb1
    clear hb1 M0
    go_wp2_with fail
    refine bodyPost_ret (v := .tuple #[.agg #[.slice none 0 0, .int .i64 0], .int .i64 1]) (by simp [results, Try.results43, go_sem, *]) rfl ⟨⟨_, [], 0, 1, rfl, ownT_none, HD.out⟩, ?_⟩
    (repeat (first | (with_reducible exact Below.refl _ _) | (with_reducible assumption) | (with_reducible apply below_drewN) | (with_reducible apply Below.drew) | ((with_reducible refine Below.setCell ?_ ?_ _); rotate_left; focus (first | (simp; done) | (simp; omega) | omega)) | ((with_reducible refine Below.alloc ?_ ?_ _); rotate_left; focus (first | (simp; done) | (simp; omega) | omega))))
  · cases hE : entB e
    · have HQ : Hid (treeB f next = true) := hT
      have HQE : Hid (entB ⟨e.key, e.id⟩ = false) := hE
      have HD : Hid (DropR f next e [] 0 1) := by
        show DropR f next e [] 0 1
        unfold DropR; rw [if_neg (by rw [hE]; simp)]; exact ⟨rfl, rfl, rfl⟩
      clear hT hE
      go_enter Try.func43, Try.ntmps43
      go_wp2_with fail
      refine (HC.out _ M0.bel).mono ?_
      rintro e' w1 ⟨rfl, hb1⟩
      rw [HQ.out]
      have M1 := M0.next hb1
      have HM1 : Hid (MkD _ _ _ _ _) := M1
      have q0 := M1.d0
      have q1 := M1.d1
      clear hb1 M0 M1
      go_wp2_with fail
      refine (HE.out _).mono ?_
      rintro e' w2 ⟨rfl, hb2⟩
      rw [HQE.out]
      obtain ⟨mb, ml, mc0, mc1, mz0, mz1, md0, md1, mr0, mr1, my0, my1⟩ := HM1.out.next hb2
      clear hb2 q0 q1
      go_wp2_with fail
      refine bodyPost_ret (v := .tuple #[.agg #[.slice none 0 0, .int .i64 0], .int .i64 1]) (by simp [results, Try.results43, go_sem, *]) rfl ⟨⟨_, [], 0, 1, rfl, ownT_none, HD.out⟩, ?_⟩
      (repeat (first | (with_reducible exact Below.refl _ _) | (with_reducible assumption) | (with_reducible apply below_drewN) | (with_reducible apply Below.drew) | ((with_reducible refine Below.setCell ?_ ?_ _); rotate_left; focus (first | (simp; done) | (simp; omega) | omega)) | ((with_reducible refine Below.alloc ?_ ?_ _); rotate_left; focus (first | (simp; done) | (simp; omega) | omega))))
    · have HQ : Hid (treeB f next = true) := hT
      have HQE : Hid (entB ⟨e.key, e.id⟩ = true) := hE
      clear hT hE
      go_enter Try.func43, Try.ntmps43
      go_wp2_with fail
      refine (HC.out _ M0.bel).mono ?_
      rintro e' w1 ⟨rfl, hb1⟩
      rw [HQ.out]
      have M1 := M0.next hb1
      have HM1 : Hid (MkD _ _ _ _ _) := M1
      have q0 := M1.d0
      have q1 := M1.d1
      clear hb1 M0 M1
      go_wp2_with fail
      refine (HE.out _).mono ?_
      rintro e' w2 ⟨rfl, hb2⟩
      rw [HQE.out]
      have M2 := HM1.out.next hb2
      have HM2 : Hid (MkD _ _ _ _ _) := M2
      clear hb2 q0 q1 HM1
      have q0 := M2.d0
      have q1 := M2.d1
      have q2 := M2.c0
      have q3 := M2.c1
      go_wp2_with fail
      refine (specDrop_at p cap f next e _ (HR.out.next M2.bel) HQ.out HQE.out (fun g pa ca i hp hi hc => HCA.out g pa ca i hp hi ?_)).mono ?_
      · rcases HR.out with h0 | ⟨g', hp', R⟩
        · rw [h0] at hi; simp at hi
        · rw [hp'] at hp; cases hp; rw [← hc]; exact (M2.bel.cell R.lt).symm
      rintro e' w3 ⟨⟨p', cap', f', code, rfl, hR3, hD3⟩, hb3⟩
      have hT3 := (hD3.right ⟨HQ.out, HQE.out⟩).1
      have hM3 := M2.next hb3
      have HM3 : Hid (MkD _ _ _ _ _) := hM3
      have HR3 : Hid (RowP w3 p' f') := hR3
      have HD3 : Hid (DropR _ _ _ _ _ _) := hD3
      have HS3 : Hid (f'.length ≤ 100 ∧ ∀ l ∈ f', l.es.length ≤ 100) := by
        have h := (treeB_iff f' next).1 hT3
        exact ⟨by omega, fun l hl => Nat.le_trans (h.2.1 l hl).1 (by omega)⟩
      have hz3 := hM3.lt
      clear q0 q1 q2 q3 hb3 hR3 hD3 hT3 M2 hM3 HM2
      go_wp2_with fail
      have B4 : Below w3.heap.size w3 (w3.alloc (.cells #[.slice p' f'.length cap', .int .i64 next] 37)) := (Below.refl _ _).alloc (Nat.le_refl _) _
      refine (specOwn_any p' cap' f' next _ (HR3.out.next B4) HS3.out.1 HS3.out.2).mono ?_
      rintro e' w5 ⟨⟨v5, rfl, hO⟩, hb5⟩
      have B5 : Below w3.heap.size w3 w5 := B4.trans (hb5.mono (by simp))
      have HO : Hid (OwnT w5 w3.heap.size v5 f') := hO.mono (by simp)
      obtain ⟨p5, c5, rfl⟩ : ∃ p5 c5, v5 = .slice p5 f'.length c5 := by
        rcases hO.form with ⟨rfl, rfl⟩ | ⟨g, c, rfl, _⟩
        · exact ⟨_, _, rfl⟩
        · exact ⟨_, _, rfl⟩
      obtain ⟨mb, ml, mc0, mc1, mz0, mz1, md0, md1, mr0, mr1, my0, my1⟩ := HM3.out.next B5
      clear hb5 hO B4 B5
      go_wp2_with fail
      refine bodyPost_ret (v := .tuple #[.agg #[.slice p5 f'.length c5, .int .i64 next], .int .i64 code]) (by simp [results, Try.results43, go_sem, *]) rfl ⟨⟨_, f', next, code, rfl, ?_, HD3.out⟩, ?_⟩
      · exact ((HO.out.grown grown_set (by omega)).grown grown_set (by omega)).mono (by omega)
      · (repeat (first | (with_reducible exact Below.refl _ _) | (with_reducible assumption) | (with_reducible apply below_drewN) | (with_reducible apply Below.drew) | ((with_reducible refine Below.setCell ?_ ?_ _); rotate_left; focus (first | (simp; done) | (simp; omega) | omega)) | ((with_reducible refine Below.alloc ?_ ?_ _); rotate_left; focus (first | (simp; done) | (simp; omega) | omega))))

end Go.Proofs.Ytaohljkmnojiiaa.Tr
