/- The specification's Vacuum, and collections in boxes of the laws. -/
import Derived.Test.YtncpijfbbgipaaaGreatDoorVacLQ
import Derived.Test.YtncpijfbbgipaaaGreatDoorColAQ
import Derived.Test.YtncpijfbbgipaaaGreatDoorColQQ
import Derived.Test.YtncpijfbbgipaaaGreatDoorColCQ
import Derived.Deep.RegionHeld3
namespace Go.Proofs.YtncpijfbbgipaaaGreatDoor.Co
open Go.RowKit Tr
set_option linter.unusedVariables false

/-- A collection and a code: what Vacuum and Install answer. -/
structure AnsC (R : Col × Int) (w : World) (e : Ending) (w' : World) : Prop where
  bel : Below w.heap.size w w'
  own : ∃ p q cp cq mid, e = .returned (.tuple #[.agg #[.string R.1.name, .slice p R.1.chs.length cp, .slice q R.1.dfs.length cq], .int .i64 R.2]) ∧ w.heap.size ≤ mid ∧ mid ≤ w'.heap.size ∧ OwnChH w' w.heap.size mid (.slice p R.1.chs.length cp) R.1.chs ∧ OwnDfH w' mid w'.heap.size (.slice q R.1.dfs.length cq) R.1.dfs
theorem noCh (w : World) (lo hi : Nat) : OwnChH w lo hi (.slice none 0 0) [] :=
  ⟨fun _ => .slice none 0 0, [], ⟨⟨rfl, .inl ⟨rfl, rfl⟩⟩, fun i h hi => absurd hi (by simp), fun i h hi => absurd hi (by simp), fun i j h h2 hi => absurd hi (by simp), fun i h hi => absurd hi (by simp)⟩, fun b h => (by cases h), fun i h => absurd h (by simp)⟩
theorem noDf (w : World) (lo hi : Nat) : OwnDfH w lo hi (.slice none 0 0) [] :=
  ⟨fun _ => .slice none 0 0, [], ⟨⟨rfl, .inl ⟨rfl, rfl⟩⟩, fun i h hi => absurd hi (by simp), fun i h hi => absurd hi (by simp), fun i j h h2 hi => absurd hi (by simp), fun i h hi => absurd hi (by simp)⟩, fun b h => (by cases h), fun i h => absurd h (by simp)⟩
def zCol : Col := ⟨em, [], []⟩
/-- The answer of Vacuum. -/
def vacP (c : Col) (t : Int) : Col × Int := match vacR c t with | some c' => (c', 0) | none => (zCol, 1)
theorem VacA.ans {c : Col} {t : Int} {w : World} {e : Ending} {w' : World} (h : VacA (vacR c t) w e w') : AnsC (vacP c t) w e w' := by
  refine ⟨h.bel, ?_⟩
  unfold vacP
  cases hR : vacR c t with
  | none => exact ⟨none, none, 0, 0, w'.heap.size, h.bad hR, h.bel.size, Nat.le_refl _, noCh _ _ _, noDf _ _ _⟩
  | some c' =>
    obtain ⟨v, u, mid, e1, h1, h2, h3, h4⟩ := h.ok c' hR
    obtain ⟨p, cp, rfl⟩ := h3.slice
    obtain ⟨q, cq, rfl⟩ := h4.slice
    exact ⟨p, q, cp, cq, mid, e1, h1, h2, h3, h4⟩
/-- Sizes that the laws' helpers ask for. -/
structure SmCol (c : Col) : Prop where
  cl : c.chs.length ≤ 1048576
  cs : ∀ p ∈ c.chs, p.vs.length ≤ 1048576
  dl : c.dfs.length ≤ 1048576
  ds : ∀ p ∈ c.dfs, p.ps.length ≤ 1048576
theorem vacP_small (c : Col) (t : Int) (hs : SzCol c) : SmCol (vacP c t).1 := by
  unfold vacP vacR
  cases hB : collB c
  · rw [if_neg (by simp)]
    exact ⟨by simp [zCol], by simp [zCol], by simp [zCol], by simp [zCol]⟩
  · rw [if_pos rfl]
    have hpt := collB_parts hB
    have hdf := collB_defs hB
    have h20 := hpt.2.2.2.1
    refine ⟨?_, fun p hp => ?_, ?_, fun p hp => ?_⟩
    · show (vacB t c.chs).length ≤ _
      have := vacB_len t c.chs
      omega
    · obtain ⟨y, hy, _, h2, _⟩ := vacB_mem hp
      rw [h2]
      have h1 := leftV_len t y.vs
      have h3 := (hpt.2.2.2.2.2 y hy).2.2.1
      omega
    · have := hdf.1; show c.dfs.length ≤ _; omega
    · have := (hdf.2 p hp).2; omega
theorem OwnChH.row {w : World} {lo hi n c : Nat} {p : Option Addr} {f : List Chn} (h : OwnChH w lo hi (.slice p n c) f) : RowCh w p f := by
  rcases h.own.form with ⟨e, e2⟩ | ⟨g, cap, e, _, hr⟩
  · exact .inl e2
  · injection e with e1 e2 e3
    exact .inr ⟨g, e1, hr⟩
theorem OwnDfH.row {w : World} {lo hi n c : Nat} {p : Option Addr} {f : List Dfn} (h : OwnDfH w lo hi (.slice p n c) f) : RowDf w p f := by
  rcases h.own.form with ⟨e, e2⟩ | ⟨g, cap, e, _, hr⟩
  · exact .inl e2
  · injection e with e1 e2 e3
    exact .inr ⟨g, e1, hr⟩
/-- A collection in a box, its rows between lo, mid and hi. -/
structure BxC (W : World) (b lo mid hi : Nat) (nm : ByteArray) (p q : Option Addr) (n m cp cq : Nat) (f : List Chn) (d : List Dfn) : Prop where
  lt : b < W.heap.size
  out : b < lo ∨ hi ≤ b
  lm : lo ≤ mid
  mh : mid ≤ hi
  hs : hi ≤ W.heap.size
  c0 : W.cell? ⟨b, 0, none⟩ = some (.string nm)
  c1 : W.cell? ⟨b, 1, none⟩ = some (.slice p n cp)
  c2 : W.cell? ⟨b, 2, none⟩ = some (.slice q m cq)
  ch : OwnChH W lo mid (.slice p n cp) f
  df : OwnDfH W mid hi (.slice q m cq) d
theorem BxC.next {W W' : World} {b lo mid hi : Nat} {nm : ByteArray} {p q : Option Addr} {n m cp cq : Nat} {f : List Chn} {d : List Dfn} (h : BxC W b lo mid hi nm p q n m cp cq f d) (hb : Below W.heap.size W W') : BxC W' b lo mid hi nm p q n m cp cq f d :=
  ⟨Nat.lt_of_lt_of_le h.lt hb.size, h.out, h.lm, h.mh, Nat.le_trans h.hs hb.size, (hb.cell h.lt).trans h.c0, (hb.cell h.lt).trans h.c1, (hb.cell h.lt).trans h.c2, h.ch.next hb, h.df.next hb⟩
theorem BxC.chg {W W' : World} {b lo mid hi lo' hi' : Nat} {nm : ByteArray} {p q : Option Addr} {n m cp cq : Nat} {f : List Chn} {d : List Dfn} (h : BxC W b lo mid hi nm p q n m cp cq f d) (hc : Chg lo' hi' W W') (h1 : hi ≤ lo' ∨ hi' ≤ lo) (h2 : b < lo' ∨ hi' ≤ b) : BxC W' b lo mid hi nm p q n m cp cq f d :=
  ⟨Nat.lt_of_lt_of_le h.lt hc.size, h.out, h.lm, h.mh, Nat.le_trans h.hs hc.size, (hc.cell h.lt h2).trans h.c0, (hc.cell h.lt h2).trans h.c1, (hc.cell h.lt h2).trans h.c2, h.ch.chg hc (by have := h.mh; omega), h.df.chg hc (by have := h.lm; omega)⟩
theorem BxC.made {W : World} {lo mid hi : Nat} {nm : ByteArray} {p q : Option Addr} {n m cp cq : Nat} {f : List Chn} {d : List Dfn} (h1 : OwnChH W lo mid (.slice p n cp) f) (h2 : OwnDfH W mid hi (.slice q m cq) d) (hl : lo ≤ mid) (hm : mid ≤ hi) (hh : hi ≤ W.heap.size) (T : TypeId) :
    BxC (W.alloc (.cells #[.string nm, .slice p n cp, .slice q m cq] T)) W.heap.size lo mid hi nm p q n m cp cq f d := by
  have hb : Below W.heap.size W (W.alloc (.cells #[.string nm, .slice p n cp, .slice q m cq] T)) := (Below.refl _ _).alloc (Nat.le_refl _) _
  exact ⟨by simp, .inr hh, hl, hm, by simp; omega, by simp [go_sem], by simp [go_sem], by simp [go_sem], h1.next hb, h2.next hb⟩
theorem BxC.eqc {W : World} {b lo mid hi b' lo' mid' hi' : Nat} {nm : ByteArray} {p q p' q' : Option Addr} {cp cq cp' cq' : Nat} {f : List Chn} {d : List Dfn} {n m n' m' : Nat} (h1 : BxC W b lo mid hi nm p q n m cp cq f d) (h2 : BxC W b' lo' mid' hi' nm p' q' n' m' cp' cq' f d) (en : n = f.length) (em : m = d.length) (en' : n' = f.length) (em' : m' = d.length) (s : SmCol ⟨nm, f, d⟩) :
    Calls Tryz.prog 11 #[.agg #[.string nm, .slice p n cp, .slice q m cq], .agg #[.string nm, .slice p' n' cp', .slice q' m' cq']] W fun e w' => e = .returned (.bool true) ∧ Below W.heap.size W w' := by
  subst en em en' em'
  exact eqColl_same nm p p' q q' cp cp' cq cq' f d W h1.ch.row h2.ch.row h1.df.row h2.df.row s.cl s.cs s.dl s.ds
def endC (f : List Chn) (d : List Dfn) : Nat := endDf (endCh 1 f) d
theorem BxC.mark {W : World} {b lo mid hi : Nat} {nm : ByteArray} {p q : Option Addr} {n m cp cq : Nat} {f : List Chn} {d : List Dfn} (h : BxC W b lo mid hi nm p q n m cp cq f d) (s : SmCol ⟨nm, f, d⟩) :
    Calls Tryz.prog 12 #[.agg #[.string nm, .slice p n cp, .slice q m cq], .int .i64 1] W fun e w' => e = .returned (.int .i64 ((endC f d : Nat) : Int)) ∧ BxC w' b lo mid hi nm p q n m cp cq (marksCh 1 f) (marksDf (endCh 1 f) d) ∧ Chg lo hi W w' := by
  refine (markColl_any nm lo mid hi _ _ f d W h.ch h.df h.lm h.mh h.hs s.cl s.cs s.dl s.ds).mono ?_
  rintro e w' ⟨rfl, h1, h2, hc⟩
  exact ⟨rfl, ⟨Nat.lt_of_lt_of_le h.lt hc.size, h.out, h.lm, h.mh, Nat.le_trans h.hs hc.size, (hc.cell h.lt h.out).trans h.c0, (hc.cell h.lt h.out).trans h.c1, (hc.cell h.lt h.out).trans h.c2, h1, h2⟩, hc⟩
theorem BxC.held {W : World} {b lo mid hi : Nat} {nm : ByteArray} {p q : Option Addr} {n m cp cq : Nat} {f : List Chn} {d : List Dfn} (h : BxC W b lo mid hi nm p q n m cp cq (marksCh 1 f) (marksDf (endCh 1 f) d)) (en : n = f.length) (em : m = d.length) (s : SmCol ⟨nm, f, d⟩) :
    Calls Tryz.prog 13 #[.agg #[.string nm, .slice p n cp, .slice q m cq], .int .i64 1] W fun e w' => e = .returned (.int .i64 ((endC f d : Nat) : Int)) ∧ Below W.heap.size W w' := by
  subst en em
  exact heldColl_any nm p q cp cq f d W h.ch.row h.df.row s.cl s.cs s.dl s.ds
theorem BxC.rd {W : World} {b lo mid hi : Nat} {nm : ByteArray} {g g2 : Nat} {n m cp cq : Nat} {f : List Chn} {d : List Dfn} (h : BxC W b lo mid hi nm (some ⟨g, 0, none⟩) (some ⟨g2, 0, none⟩) n m cp cq f d) : RdC W g g2 ⟨nm, f, d⟩ := rdC_of h.ch h.df

set_option maxRecDepth 4000 in
set_option maxHeartbeats 4000000 in
theorem specVacuum_any (c : Col) (t : Int) (g1 g2 : Nat) (cp cq : Nat) (w : World) (hr : RdC w g1 g2 c) (hs : SzCol c) :
    Calls Tryz.prog 14 #[.agg #[.string c.name, .slice (some ⟨g1, 0, none⟩) c.chs.length cp, .slice (some ⟨g2, 0, none⟩) c.dfs.length cq], .int .i64 t] w fun e w' => VacA (vacR c t) w e w' := by
  have M0 := MkQ.start w (.string c.name) (.slice (some ⟨g1, 0, none⟩) c.chs.length cp) (.slice (some ⟨g2, 0, none⟩) c.dfs.length cq) (.string em) (.slice none 0 0) (.slice none 0 0) 35 35
  have HC : Hid (∀ W : World, RdC W g1 g2 c → Calls _ _ _ W _) := fun W hW => specColl_any c (some ⟨g1, 0, none⟩) (some ⟨g2, 0, none⟩) cp cq W hW.ch.inCh hW.df hs
  have HR : Hid (RdC _ _ _ _) := hr
  have HSZ : Hid (SzCol c) := hs
  clear hr hs
  have d0 := M0.c0
  have d1 := M0.c1
  have d2 := M0.c2
  cases hB : collB c
  · have HV : Hid (vacR c t = none) := by show vacR c t = none; unfold vacR; rw [hB, if_neg (by simp)]
    rw [hB] at HC
    clear hB
    go_enter Tryz.func14, Tryz.ntmps14
    go_wp2_with fail
    generalize (w.alloc (.cells #[.string c.name, .slice (some ⟨g1, 0, none⟩) c.chs.length cp, .slice (some ⟨g2, 0, none⟩) c.dfs.length cq] 35)).alloc (.cells #[.string em, .slice none 0 0, .slice none 0 0] 35) = W0 at M0 d0 d1 d2 ⊢
    refine (HC.out _ (HR.out.next M0.bel)).mono ?_
    rintro e w1 ⟨rfl, hb⟩
    obtain ⟨mb, ml, mc0, mc1, mc2, mz0, ⟨r0, mr0⟩, ⟨r1, mr1⟩, ⟨r2, mr2⟩, my0⟩ := M0.next hb
    clear hb M0 d0 d1 d2
    go_wp2_with fail
    refine bodyPost_ret (v := .tuple #[.agg #[.string em, .slice none 0 0, .slice none 0 0], .int .i64 1]) (by simp [results, Tryz.results14, go_sem, *]) rfl ⟨?_, fun _ => rfl, fun c' h => by rw [HV.out] at h; cases h⟩
    (repeat (first | (with_reducible exact Below.refl _ _) | (with_reducible assumption) | (with_reducible apply below_drewN) | (with_reducible apply Below.drew) | ((with_reducible refine Below.setCell ?_ ?_ _); rotate_left; focus (first | (simp; done) | (simp; omega) | omega)) | ((with_reducible refine Below.alloc ?_ ?_ _); rotate_left; focus (first | (simp; done) | (simp; omega) | omega))))
  · have HV : Hid (vacR c t = some ⟨c.name, vacB t c.chs, c.dfs⟩) := by show vacR c t = _; unfold vacR; rw [hB, if_pos rfl]
    have hpt := collB_parts hB
    have hdf := collB_defs hB
    have HDF : Hid (_ ∧ _) := hdf
    have h20 := hpt.2.2.2.1
    have HPT : Hid (∀ x ∈ c.chs, topB x.id = true ∧ 1 ≤ x.vs.length ∧ x.vs.length ≤ 12 ∧ versB x.id 0 x.vs = true) := hpt.2.2.2.2.2
    rw [hB] at HC
    clear hB hpt hdf
    go_enter Tryz.func14, Tryz.ntmps14
    go_wp2_with fail
    generalize (w.alloc (.cells #[.string c.name, .slice (some ⟨g1, 0, none⟩) c.chs.length cp, .slice (some ⟨g2, 0, none⟩) c.dfs.length cq] 35)).alloc (.cells #[.string em, .slice none 0 0, .slice none 0 0] 35) = W0 at M0 d0 d1 d2 ⊢
    refine (HC.out _ (HR.out.next M0.bel)).mono ?_
    rintro e w1 ⟨rfl, hb⟩
    have M1 := M0.next hb
    have n0 := M1.c0
    have n1 := M1.c1
    have n2 := M1.c2
    clear hb M0 d0 d1 d2 HC
    go_wp2_with fail
    refine (l08Vacuum_any c t g1 g2 cp cq w1 (HR.out.next M1.bel) h20 HPT.out).mono ?_
    rintro e w2 ⟨⟨pk, ck, rfl, hrow⟩, hb⟩
    have HRW : Hid (RowCh _ _ _) := hrow
    have M2 := M1.next hb
    clear hb n0 n1 n2 hrow M1
    have hlv := vacB_len t c.chs
    go_wp2_with fail
    refine (specOwnC_any c.name pk (some ⟨g2, 0, none⟩) ck cq (vacB t c.chs) c.dfs w2 HRW.out (HR.out.next M2.bel).df (by omega) (fun p hp => ?_) (by have := HDF.out.1; omega) (fun p hp => ⟨by have := (HDF.out.2 p hp).2; omega, by have := (HDF.out.2 p hp).1; omega⟩)).mono ?_
    · obtain ⟨y, hy, _, h2, h3⟩ := vacB_mem hp
      refine ⟨?_, h3⟩
      rw [h2]
      exact Nat.le_trans (leftV_len t y.vs) (by have := (HPT.out y hy).2.2.1; omega)
    rintro e w9 ⟨⟨v9, u9, mid, rfl, hm1, hm2, hCh, hDf⟩, hb9⟩
    obtain ⟨pc9, cc9, rfl⟩ := hCh.slice
    obtain ⟨pd9, cd9, rfl⟩ := hDf.slice
    have HCh : Hid (OwnChH _ _ _ _ _) := hCh
    have HDf : Hid (OwnDfH _ _ _ _ _) := hDf
    have hw2 := M2.lt
    obtain ⟨mb, ml, mc0, mc1, mc2, mz0, ⟨r0, mr0⟩, ⟨r1, mr1⟩, ⟨r2, mr2⟩, my0⟩ := M2.next hb9
    clear hCh hDf hb9 M2
    go_wp2_with fail
    refine bodyPost_ret (v := .tuple #[.agg #[.string c.name, .slice pc9 (vacB t c.chs).length cc9, .slice pd9 c.dfs.length cd9], .int .i64 0]) (by simp [results, Tryz.results14, go_sem, *]) rfl ⟨?_, fun h => (by rw [HV.out] at h; cases h), fun c' h => ?_⟩
    · (repeat (first | (with_reducible exact Below.refl _ _) | (with_reducible assumption) | (with_reducible apply below_drewN) | (with_reducible apply Below.drew) | ((with_reducible refine Below.setCell ?_ ?_ _); rotate_left; focus (first | (simp; done) | (simp; omega) | omega)) | ((with_reducible refine Below.alloc ?_ ?_ _); rotate_left; focus (first | (simp; done) | (simp; omega) | omega))))
    · rw [HV.out] at h
      injection h with h
      subst h
      exact ⟨_, _, mid, rfl, by omega, by simp [World.setCell]; exact hm2, (chH_at (chH_at (chH_at HCh.out _ _ _ (by omega)) _ _ _ (by omega)) _ _ _ (by omega)).mono (by omega) (Nat.le_refl _), (dfH_at (dfH_at (dfH_at HDf.out _ _ _ (by omega)) _ _ _ (by omega)) _ _ _ (by omega)).mono (Nat.le_refl _) (by simp [World.setCell])⟩

end Go.Proofs.YtncpijfbbgipaaaGreatDoor.Co

/- The law's own walk of Vacuum. -/
namespace Go.Proofs.YtncpijfbbgipaaaGreatDoor.CollVacf
open Go.RowKit Tr Co
set_option linter.unusedVariables false

theorem bunder {w W W' : World} {base : Nat} {a b c : Value} (h : Boxed w W a b c) (hb : Below base W W') (hlt : w.heap.size < base) : Boxed w W' a b c :=
  ⟨h.bel.trans (hb.mono (Nat.le_of_lt hlt)), Nat.lt_of_lt_of_le h.lt hb.size, (hb.cell hlt).trans h.c0, (hb.cell hlt).trans h.c1, (hb.cell hlt).trans h.c2⟩
set_option maxRecDepth 8000 in
set_option maxHeartbeats 4000000 in
theorem walk (c : Col) (p q : Option Addr) (cp cq : Nat) (hm : MaxCol c) (t : Int) {P : Prop} (wid : P) (w : World) (hin : InCol w p q c) :
    Calls Tryz.prog 4 #[.agg #[.string c.name, .slice p c.chs.length cp, .slice q c.dfs.length cq], .int .i64 t] w fun e w' => e = .returned (.bool true) ∧ Below w.heap.size w w' := by
  have X0 := Boxed.start w (.string c.name) (.slice p c.chs.length cp) (.slice q c.dfs.length cq) 25
  have HIN : Hid (InCol w p q c) := hin
  have HZ : Hid (∀ W : World, InCol W p q c → Calls _ _ _ W _) := fun W hW => szColl_at c p q cp cq 1048576 W hW hm (by omega) (by omega)
  clear hin hm wid
  go_enter Tryz.func4, Tryz.ntmps4
  go_wp2_with fail
  refine (HZ.out _ (HIN.out.step X0.bel)).mono ?_
  rintro e w1 ⟨⟨r, rfl, hr⟩, hb⟩
  have X1 := X0.step hb
  clear hb HZ X0
  rcases hr with hneg | ⟨hr0, hr1, hsz⟩
  · have hbw := X1.bel
    go_wp2_with fail
    go_ret
    exact ⟨rfl, hbw⟩
  have hnn : ¬ r < 0 := by omega
  have HSZ : Hid (SzCol c) := hsz
  have HTO : Hid (∀ W : World, InCol W p q c → Calls _ _ _ W _) := fun W hW => toColl_any c p q cp cq W hW hsz
  have HS : Hid (∀ (g h : Nat) (W : World), RdC W g h c → Calls Tryz.prog 14 #[.agg #[.string c.name, .slice (some ⟨g, 0, none⟩) c.chs.length c.chs.length, .slice (some ⟨h, 0, none⟩) c.dfs.length c.dfs.length], .int .i64 t] W fun e w' => AnsC (vacP c t) W e w') := fun g h W hW => (specVacuum_any c t g h c.chs.length c.dfs.length W hW hsz).mono fun _ _ h => h.ans
  have HI : Hid (∀ (g h : Nat) (W : World), RdC W g h c → Calls Tryz.prog 15 #[.agg #[.string c.name, .slice (some ⟨g, 0, none⟩) c.chs.length c.chs.length, .slice (some ⟨h, 0, none⟩) c.dfs.length c.dfs.length], .int .i64 t] W fun e w' => AnsC (vacP c t) W e w') := fun g h W hW => (vacuum_any c t g h c.chs.length c.dfs.length W hW hsz).mono fun _ _ h => h.ans
  have hsm := vacP_small c t hsz
  obtain ⟨⟨R, code⟩, hL⟩ : ∃ L, L = vacP c t := ⟨_, rfl⟩
  rw [← hL] at HS HI hsm
  obtain ⟨rn, rc, rd⟩ := R
  simp only at hsm
  have HSM : Hid (SmCol ⟨rn, rc, rd⟩) := hsm
  have HSC : Hid (SmCol ⟨c.name, c.chs, c.dfs⟩) := ⟨hsz.chl, hsz.vs, hsz.dfl, hsz.ps⟩
  clear hL hsz hr1 hsm
  have c0 := X1.c0
  have c1 := X1.c1
  have c2 := X1.c2
  go_wp2_with fail
  refine (HTO.out _ (HIN.out.step X1.bel)).mono ?_
  rintro e w2 ⟨⟨g2, h2, mid2, rfl, O2, P2, m2a, m2b⟩, hb⟩
  have X2 := X1.step hb
  have HO2 : Hid (RdC _ _ _ _) := rdC_of O2 P2
  clear hb X1 c0 c1 c2 O2 P2 m2a m2b
  go_wp2_with fail
  refine (HS.out g2 h2 _ HO2.out).mono ?_
  rintro e w3' ⟨hb, ps, qs, cps, cqs, mids, rfl, ms1, ms2, os, ds⟩
  have hbA0 : Below w3'.heap.size w3' (w3'.alloc (.cells #[.string rn, .slice ps rc.length cps, .slice qs rd.length cqs] 35)) := (Below.refl _ _).alloc (Nat.le_refl _) _
  have X3 := (X2.step hb).step hbA0
  have S3 := BxC.made (nm := rn) os ds ms1 ms2 (Nat.le_refl _) 35
  have hlo0 : w.heap.size < w2.heap.size := X2.lt
  have c0 := (X2.step hb).c0
  have c1 := (X2.step hb).c1
  have c2 := (X2.step hb).c2
  have hlt3 := (X2.step hb).lt
  clear hb X2 HO2 hbA0 os ds
  go_wp2_with fail
  clear c0 c1 c2 hlt3
  generalize w3'.alloc (.cells #[.string rn, .slice ps rc.length cps, .slice qs rd.length cqs] 35) = w3 at X3 S3 ⊢
  obtain ⟨bs, hbs⟩ : ∃ bs, bs = w3'.heap.size := ⟨_, rfl⟩
  obtain ⟨ls, hls⟩ : ∃ ls, ls = w2.heap.size := ⟨_, rfl⟩
  rw [← hbs, ← hls] at S3
  rw [← hls] at hlo0
  try rw [← hbs]
  clear hbs hls ms1 ms2
  have hS1 : ls ≤ bs := Nat.le_trans S3.lm S3.mh
  refine (HTO.out _ (HIN.out.step X3.bel)).mono ?_
  rintro e w4 ⟨⟨g4, h4, mid4, rfl, O4, P4, m4a, m4b⟩, hb⟩
  have hbA : Below w4.heap.size w4 (w4.alloc (.cells #[.string c.name, .slice (some ⟨g4, 0, none⟩) c.chs.length c.chs.length, .slice (some ⟨h4, 0, none⟩) c.dfs.length c.dfs.length] 35)) := (Below.refl _ _).alloc (Nat.le_refl _) _
  have X5 := (X3.step hb).step hbA
  have S5 := (S3.next hb).next hbA
  have A5 := BxC.made (nm := c.name) O4 P4 m4a m4b (Nat.le_refl _) 35
  have hsA : bs < w3.heap.size := S3.lt
  have hsA2 := S3.hs
  clear hb X3 S3 O4 P4 hbA m4a m4b
  go_wp2_with fail
  generalize w4.alloc (.cells #[.string c.name, .slice (some ⟨g4, 0, none⟩) c.chs.length c.chs.length, .slice (some ⟨h4, 0, none⟩) c.dfs.length c.dfs.length] 35) = w5 at X5 S5 A5 ⊢
  obtain ⟨bx, hbx⟩ : ∃ bx, bx = w4.heap.size := ⟨_, rfl⟩
  obtain ⟨lx, hlx⟩ : ∃ lx, lx = w3.heap.size := ⟨_, rfl⟩
  rw [← hbx, ← hlx] at A5
  rw [← hlx] at hsA hsA2
  try rw [← hbx]
  clear hbx hlx
  have hA1 : lx ≤ bx := Nat.le_trans A5.lm A5.mh
  refine (HI.out g4 h4 _ A5.rd).mono ?_
  rintro e w6 ⟨hb, pg, qg, cpg, cqg, midg, rfl, mg1, mg2, og, dg⟩
  have hbA : Below w6.heap.size w6 (w6.alloc (.cells #[.string rn, .slice pg rc.length cpg, .slice qg rd.length cqg] 35)) := (Below.refl _ _).alloc (Nat.le_refl _) _
  have X6' := (X5.step hb).step hbA
  have S6' := (S5.next hb).next hbA
  have A6' := (A5.next hb).next hbA
  have G6' := BxC.made (nm := rn) og dg mg1 mg2 (Nat.le_refl _) 35
  have hAl := A5.lt
  have hAh := A5.hs
  have b0 := (S5.next hb).c0
  have b1 := (S5.next hb).c1
  have b2 := (S5.next hb).c2
  have hltS := (S5.next hb).lt
  clear hb X5 S5 A5 og dg hbA mg1 mg2
  go_wp2_with fail
  clear b0 b1 b2 hltS
  generalize w6.alloc (.cells #[.string rn, .slice pg rc.length cpg, .slice qg rd.length cqg] 35) = w6' at X6' S6' A6' G6' ⊢
  obtain ⟨bg, hbg⟩ : ∃ bg, bg = w6.heap.size := ⟨_, rfl⟩
  obtain ⟨lg, hlg⟩ : ∃ lg, lg = w5.heap.size := ⟨_, rfl⟩
  rw [← hbg, ← hlg] at G6'
  rw [← hlg] at hAl hAh
  try rw [← hbg]
  clear hbg hlg
  have hG1 : lg ≤ bg := Nat.le_trans G6'.lm G6'.mh
  refine (G6'.eqc S6' rfl rfl rfl rfl HSM.out).mono ?_
  rintro e w7 ⟨rfl, hb⟩
  have X7 := X6'.step hb
  have S7 := S6'.next hb
  have A7 := A6'.next hb
  have G7 := G6'.next hb
  have HA7 : Hid (BxC _ _ _ _ _ _ _ _ _ _ _ _ _ _) := A7
  have HS7 : Hid (BxC _ _ _ _ _ _ _ _ _ _ _ _ _ _) := S7
  have HG7 : Hid (BxC _ _ _ _ _ _ _ _ _ _ _ _ _ _) := G7
  clear hb X6' S6' A6' G6' S7 G7
  go_wp2_with fail
  go_region_held3 (fun w0 => w0.cell? ⟨w.heap.size, 0, none⟩ = some (.string c.name) ∧ w0.cell? ⟨w.heap.size, 1, none⟩ = some (.slice p c.chs.length cp) ∧ w0.cell? ⟨w.heap.size, 2, none⟩ = some (.slice q c.dfs.length cq) ∧ w0.cell? ⟨bx, 0, none⟩ = some (.string c.name) ∧ w0.cell? ⟨bx, 1, none⟩ = some (.slice (some ⟨g4, 0, none⟩) c.chs.length c.chs.length) ∧ w0.cell? ⟨bx, 2, none⟩ = some (.slice (some ⟨h4, 0, none⟩) c.dfs.length c.dfs.length)) ((refine keepC X7 A7.lt A7.c0 A7.c1 A7.c2 ?_; (repeat (first | (with_reducible exact Below.refl _ _) | (with_reducible assumption) | (with_reducible apply below_drewN) | (with_reducible apply Below.drew) | ((with_reducible refine Below.setCell ?_ ?_ _); rotate_left; focus (first | (simp; done) | (simp; omega) | omega)) | ((with_reducible refine Below.alloc ?_ ?_ _); rotate_left; focus (first | (simp; done) | (simp; omega) | omega)))))) (first | (go_at_call 8; refine (HTO.out _ (HIN.out.step (X7.bel.trans ((show Below w7.heap.size w7 _ by (repeat (first | (with_reducible exact Below.refl _ _) | (with_reducible assumption) | (with_reducible apply below_drewN) | (with_reducible apply Below.drew) | ((with_reducible refine Below.setCell ?_ ?_ _); rotate_left; focus (first | (simp; done) | (simp; omega) | omega)) | ((with_reducible refine Below.alloc ?_ ?_ _); rotate_left; focus (first | (simp; done) | (simp; omega) | omega))))).mono X7.bel.size)))).mono ?_; rintro e w8 ⟨⟨g8, h8, mid8, rfl, O8, P8, m8a, m8b⟩, hb⟩; have hB8 : Below w7.heap.size w7 w8 := (show Below w7.heap.size w7 _ by (repeat (first | (with_reducible exact Below.refl _ _) | (with_reducible assumption) | (with_reducible apply below_drewN) | (with_reducible apply Below.drew) | ((with_reducible refine Below.setCell ?_ ?_ _); rotate_left; focus (first | (simp; done) | (simp; omega) | omega)) | ((with_reducible refine Below.alloc ?_ ?_ _); rotate_left; focus (first | (simp; done) | (simp; omega) | omega))))).trans (hb.mono (by simp)); have HO8 : Hid (RdCol w8 g8 h8 c) := rdCol_of O8 P8; clear hb O8 P8 m8a m8b) | (go_at_call 11; refine (eqColl_same c.name _ _ _ _ _ _ _ _ c.chs c.dfs _ (HA7.out.next hB8).ch.row HO8.out.ch (HA7.out.next hB8).df.row HO8.out.df HSZ.out.chl HSZ.out.vs HSZ.out.dfl HSZ.out.ps).mono ?_; rintro e w9 ⟨rfl, hb⟩; have hB9 : Below w7.heap.size w7 w9 := hB8.trans (hb.mono hB8.size); clear hb))
  have X9 := X7.step hB9
  have S9 := HS7.out.next hB9
  have A9 := HA7.out.next hB9
  have G9 := HG7.out.next hB9
  clear hB8 hB9 HO8 X7 HS7 A7 HA7 HG7
  have a0 := A9.c0
  have a1 := A9.c1
  have a2 := A9.c2
  go_wp2_with fail
  refine (A9.mark HSC.out).mono ?_
  rintro e w10 ⟨rfl, _, hc⟩
  obtain ⟨E, hE⟩ : ∃ E, E = endC c.chs c.dfs := ⟨_, rfl⟩
  rw [← hE]
  have hE0 : ¬ ((E : Nat) : Int) < 0 := by omega
  have hlx : lx ≤ w9.heap.size := Nat.le_trans A9.lm (Nat.le_trans A9.mh A9.hs)
  have X10 := bunder X9 (hc.below (Nat.le_refl _) hlx) (by omega)
  have S10 := S9.chg hc (by omega) (by omega)
  have G10 := G9.chg hc (by omega) (by omega)
  clear hE hc X9 S9 G9 A9 a0 a1 a2
  have a0 := G10.c0
  have a1 := G10.c1
  have a2 := G10.c2
  have b0 := S10.c0
  have b1 := S10.c1
  have b2 := S10.c2
  go_wp2_with fail
  refine (G10.eqc S10 rfl rfl rfl rfl HSM.out).mono ?_
  rintro e w11 ⟨rfl, hb⟩
  have X11 := X10.step hb
  have S11 := S10.next hb
  have G11 := G10.next hb
  clear hb X10 S10 G10 a0 a1 a2 b0 b1 b2
  have a0 := G11.c0
  have a1 := G11.c1
  have a2 := G11.c2
  go_wp2_with fail
  refine (G11.mark HSM.out).mono ?_
  rintro e w12 ⟨rfl, G12, hc⟩
  obtain ⟨F, hF⟩ : ∃ F, F = endC rc rd := ⟨_, rfl⟩
  have HF : Hid (F = endC rc rd) := hF
  rw [← hF]
  have hF0 : ¬ ((F : Nat) : Int) < 0 := by omega
  have hlg2 : lg ≤ w11.heap.size := Nat.le_trans G11.lm (Nat.le_trans G11.mh G11.hs)
  have X12 := bunder X11 (hc.below (Nat.le_refl _) hlg2) (by omega)
  have S12 := S11.chg hc (by omega) (by omega)
  clear hF hc X11 S11 G11 a0 a1 a2
  have a0 := G12.c0
  have a1 := G12.c1
  have a2 := G12.c2
  go_wp2_with fail
  refine (G12.held rfl rfl HSM.out).mono ?_
  rintro e w13 ⟨rfl, hb⟩
  rw [← HF.out]
  have X13 := X12.step hb
  have S13 := S12.next hb
  have G13 := G12.next hb
  clear hb X12 S12 G12 a0 a1 a2
  have c0 := X13.c0
  have c1 := X13.c1
  have c2 := X13.c2
  go_wp2_with fail
  refine (HTO.out _ (HIN.out.step X13.bel)).mono ?_
  rintro e w14 ⟨⟨g14, h14, mid14, rfl, O14, P14, _, _⟩, hb⟩
  have X14 := X13.step hb
  have S14 := S13.next hb
  have G14 := G13.next hb
  have HO14 : Hid (RdC _ _ _ _) := rdC_of O14 P14
  clear hb X13 S13 G13 O14 P14 c0 c1 c2
  go_wp2_with fail
  refine (HI.out g14 h14 _ HO14.out).mono ?_
  rintro e w15' ⟨hb, ph, qh, cph, cqh, midh, rfl, mh1, mh2, oh, dh⟩
  have hbA : Below w15'.heap.size w15' (w15'.alloc (.cells #[.string rn, .slice ph rc.length cph, .slice qh rd.length cqh] 35)) := (Below.refl _ _).alloc (Nat.le_refl _) _
  have X15 := (X14.step hb).step hbA
  have S15 := (S14.next hb).next hbA
  have G15 := (G14.next hb).next hbA
  have H15 := BxC.made (nm := rn) oh dh mh1 mh2 (Nat.le_refl _) 35
  have b0 := (S14.next hb).c0
  have b1 := (S14.next hb).c1
  have b2 := (S14.next hb).c2
  have hltS := (S14.next hb).lt
  clear hb hbA X14 S14 G14 HO14 oh dh mh1 mh2
  go_wp2_with fail
  clear b0 b1 b2 hltS
  generalize w15'.alloc (.cells #[.string rn, .slice ph rc.length cph, .slice qh rd.length cqh] 35) = w15 at X15 S15 G15 H15 ⊢
  obtain ⟨bh, hbh⟩ : ∃ bh, bh = w15'.heap.size := ⟨_, rfl⟩
  rw [← hbh] at H15
  try rw [← hbh]
  clear hbh
  refine (H15.eqc S15 rfl rfl rfl rfl HSM.out).mono ?_
  rintro e w16 ⟨rfl, hb⟩
  have X16 := X15.step hb
  have G16 := G15.next hb
  clear hb X15 S15 G15 H15
  have a0 := G16.c0
  have a1 := G16.c1
  have a2 := G16.c2
  go_wp2_with fail
  refine (G16.held rfl rfl HSM.out).mono ?_
  rintro e w17 ⟨rfl, hb⟩
  rw [← HF.out]
  have hbw := (X16.step hb).bel
  clear hb X16 G16 a0 a1 a2
  go_wp2_with fail
  go_ret
  exact ⟨rfl, hbw⟩

end Go.Proofs.YtncpijfbbgipaaaGreatDoor.CollVacf
