/- The specification's Vacuum, and collections in boxes of the laws. -/
import Derived.Test.YtkafanjfjplakaaGreatDoorVacS
import Derived.Test.YtkafanjfjplakaaGreatDoorVacJ
import Derived.Test.YtkafanjfjplakaaGreatDoorColR
import Derived.Test.YtkafanjfjplakaaGreatDoorCopS
import Derived.Test.YtkafanjfjplakaaGreatDoorColH
namespace Go.Proofs.YtkafanjfjplakaaGreatDoor.Co
open Go.RowKit Tr
set_option linter.unusedVariables false

/-- A collection and a code: what Vacuum and Install answer. -/
structure AnsC (R : Col × Int) (w : World) (e : Ending) (w' : World) : Prop where
  bel : Below w.heap.size w w'
  own : ∃ p q cp cq mid, e = .returned (.tuple #[.agg #[.string R.1.name, .slice p R.1.chs.length cp, .slice q R.1.dfs.length cq], .int .i64 R.2]) ∧ w.heap.size ≤ mid ∧ mid ≤ w'.heap.size ∧ OwnChH w' w.heap.size mid (.slice p R.1.chs.length cp) R.1.chs ∧ OwnDfH w' mid w'.heap.size (.slice q R.1.dfs.length cq) R.1.dfs
theorem noCh (w : World) (lo hi : Nat) : OwnChH w lo hi (.slice none 0 0) [] :=
  ⟨fun _ => .slice none 0 0, [], ⟨⟨rfl, .inl ⟨rfl, rfl⟩⟩, fun i h hi => absurd hi (by simp), fun i h hi => absurd hi (by simp), fun i j h h2 hi => absurd hi (by simp), fun i h hi => absurd hi (by simp)⟩, fun b h => (by cases h), fun i h => absurd h (by simp)⟩
theorem noDf (w : World) (lo hi : Nat) : OwnDfH w lo hi (.slice none 0 0) [] :=
  ⟨fun _ => .slice none 0 0, [], ⟨⟨rfl, .inl ⟨rfl, rfl⟩⟩, fun i h hi => absurd hi (by simp), fun i h hi => absurd hi (by simp), fun i j h h2 hi => absurd hi (by simp), fun i h hi => absurd hi (by simp)⟩, fun b h => (by cases h), fun i h => absurd h (by simp)⟩
def zCol : Col := ⟨em, [], []⟩
/-- The answer of Vacuum. -/
def vacP (c : Col) (t : Int) : Col × Int := match vacR c t with | some c' => (c', 0) | none => (zCol, 1)
theorem VacA.ans {c : Col} {t : Int} {w : World} {e : Ending} {w' : World} (h : VacA (vacR c t) w e w') : AnsC (vacP c t) w e w' := by
  refine ⟨h.bel, ?_⟩
  unfold vacP
  cases hR : vacR c t with
  | none => exact ⟨none, none, 0, 0, w'.heap.size, h.bad hR, h.bel.size, Nat.le_refl _, noCh _ _ _, noDf _ _ _⟩
  | some c' =>
    obtain ⟨v, u, mid, e1, h1, h2, h3, h4⟩ := h.ok c' hR
    obtain ⟨p, cp, rfl⟩ := h3.slice
    obtain ⟨q, cq, rfl⟩ := h4.slice
    exact ⟨p, q, cp, cq, mid, e1, h1, h2, h3, h4⟩
/-- Sizes that the laws' helpers ask for. -/
structure SmCol (c : Col) : Prop where
  cl : c.chs.length ≤ 1048576
  cs : ∀ p ∈ c.chs, p.vs.length ≤ 1048576
  dl : c.dfs.length ≤ 1048576
  ds : ∀ p ∈ c.dfs, p.ps.length ≤ 1048576
theorem vacP_small (c : Col) (t : Int) (hs : SzCol c) : SmCol (vacP c t).1 := by
  unfold vacP vacR
  cases hB : collB c
  · rw [if_neg (by simp)]
    exact ⟨by simp [zCol], by simp [zCol], by simp [zCol], by simp [zCol]⟩
  · rw [if_pos rfl]
    have hpt := collB_parts hB
    have hdf := collB_defs hB
    have h20 := hpt.2.2.2.1
    refine ⟨?_, fun p hp => ?_, ?_, fun p hp => ?_⟩
    · show (vacB t c.chs).length ≤ _
      have := vacB_len t c.chs
      omega
    · obtain ⟨y, hy, _, h2, _⟩ := vacB_mem hp
      rw [h2]
      have h1 := leftV_len t y.vs
      have h3 := (hpt.2.2.2.2.2 y hy).2.2.1
      omega
    · have := hdf.1; show c.dfs.length ≤ _; omega
    · have := (hdf.2 p hp).2; omega
theorem OwnChH.row {w : World} {lo hi n c : Nat} {p : Option Addr} {f : List Chn} (h : OwnChH w lo hi (.slice p n c) f) : RowCh w p f := by
  rcases h.own.form with ⟨e, e2⟩ | ⟨g, cap, e, _, hr⟩
  · exact .inl e2
  · injection e with e1 e2 e3
    exact .inr ⟨g, e1, hr⟩
theorem OwnDfH.row {w : World} {lo hi n c : Nat} {p : Option Addr} {f : List Dfn} (h : OwnDfH w lo hi (.slice p n c) f) : RowDf w p f := by
  rcases h.own.form with ⟨e, e2⟩ | ⟨g, cap, e, _, hr⟩
  · exact .inl e2
  · injection e with e1 e2 e3
    exact .inr ⟨g, e1, hr⟩
/-- A collection in a box, its rows between lo, mid and hi. -/
structure BxC (W : World) (b lo mid hi : Nat) (nm : ByteArray) (p q : Option Addr) (n m cp cq : Nat) (f : List Chn) (d : List Dfn) : Prop where
  lt : b < W.heap.size
  out : b < lo ∨ hi ≤ b
  lm : lo ≤ mid
  mh : mid ≤ hi
  hs : hi ≤ W.heap.size
  c0 : W.cell? ⟨b, 0, none⟩ = some (.string nm)
  c1 : W.cell? ⟨b, 1, none⟩ = some (.slice p n cp)
  c2 : W.cell? ⟨b, 2, none⟩ = some (.slice q m cq)
  ch : OwnChH W lo mid (.slice p n cp) f
  df : OwnDfH W mid hi (.slice q m cq) d
theorem BxC.next {W W' : World} {b lo mid hi : Nat} {nm : ByteArray} {p q : Option Addr} {n m cp cq : Nat} {f : List Chn} {d : List Dfn} (h : BxC W b lo mid hi nm p q n m cp cq f d) (hb : Below W.heap.size W W') : BxC W' b lo mid hi nm p q n m cp cq f d :=
  ⟨Nat.lt_of_lt_of_le h.lt hb.size, h.out, h.lm, h.mh, Nat.le_trans h.hs hb.size, (hb.cell h.lt).trans h.c0, (hb.cell h.lt).trans h.c1, (hb.cell h.lt).trans h.c2, h.ch.next hb, h.df.next hb⟩
theorem BxC.chg {W W' : World} {b lo mid hi lo' hi' : Nat} {nm : ByteArray} {p q : Option Addr} {n m cp cq : Nat} {f : List Chn} {d : List Dfn} (h : BxC W b lo mid hi nm p q n m cp cq f d) (hc : Chg lo' hi' W W') (h1 : hi ≤ lo' ∨ hi' ≤ lo) (h2 : b < lo' ∨ hi' ≤ b) : BxC W' b lo mid hi nm p q n m cp cq f d :=
  ⟨Nat.lt_of_lt_of_le h.lt hc.size, h.out, h.lm, h.mh, Nat.le_trans h.hs hc.size, (hc.cell h.lt h2).trans h.c0, (hc.cell h.lt h2).trans h.c1, (hc.cell h.lt h2).trans h.c2, h.ch.chg hc (by have := h.mh; omega), h.df.chg hc (by have := h.lm; omega)⟩
theorem BxC.made {W : World} {lo mid hi : Nat} {nm : ByteArray} {p q : Option Addr} {n m cp cq : Nat} {f : List Chn} {d : List Dfn} (h1 : OwnChH W lo mid (.slice p n cp) f) (h2 : OwnDfH W mid hi (.slice q m cq) d) (hl : lo ≤ mid) (hm : mid ≤ hi) (hh : hi ≤ W.heap.size) (T : TypeId) :
    BxC (W.alloc (.cells #[.string nm, .slice p n cp, .slice q m cq] T)) W.heap.size lo mid hi nm p q n m cp cq f d := by
  have hb : Below W.heap.size W (W.alloc (.cells #[.string nm, .slice p n cp, .slice q m cq] T)) := (Below.refl _ _).alloc (Nat.le_refl _) _
  exact ⟨by simp, .inr hh, hl, hm, by simp; omega, by simp [go_sem], by simp [go_sem], by simp [go_sem], h1.next hb, h2.next hb⟩
theorem BxC.eqc {W : World} {b lo mid hi b' lo' mid' hi' : Nat} {nm : ByteArray} {p q p' q' : Option Addr} {cp cq cp' cq' : Nat} {f : List Chn} {d : List Dfn} {n m n' m' : Nat} (h1 : BxC W b lo mid hi nm p q n m cp cq f d) (h2 : BxC W b' lo' mid' hi' nm p' q' n' m' cp' cq' f d) (en : n = f.length) (em : m = d.length) (en' : n' = f.length) (em' : m' = d.length) (s : SmCol ⟨nm, f, d⟩) :
    Calls Tryz.prog 13 #[.agg #[.string nm, .slice p n cp, .slice q m cq], .agg #[.string nm, .slice p' n' cp', .slice q' m' cq']] W fun e w' => e = .returned (.bool true) ∧ Below W.heap.size W w' := by
  subst en em en' em'
  exact eqColl_same nm p p' q q' cp cp' cq cq' f d W h1.ch.row h2.ch.row h1.df.row h2.df.row s.cl s.cs s.dl s.ds
def endC (f : List Chn) (d : List Dfn) : Nat := endDf (endCh 1 f) d
theorem BxC.mark {W : World} {b lo mid hi : Nat} {nm : ByteArray} {p q : Option Addr} {n m cp cq : Nat} {f : List Chn} {d : List Dfn} (h : BxC W b lo mid hi nm p q n m cp cq f d) (s : SmCol ⟨nm, f, d⟩) :
    Calls Tryz.prog 14 #[.agg #[.string nm, .slice p n cp, .slice q m cq], .int .i64 1] W fun e w' => e = .returned (.int .i64 ((endC f d : Nat) : Int)) ∧ BxC w' b lo mid hi nm p q n m cp cq (marksCh 1 f) (marksDf (endCh 1 f) d) ∧ Chg lo hi W w' := by
  refine (markColl_any nm lo mid hi _ _ f d W h.ch h.df h.lm h.mh h.hs s.cl s.cs s.dl s.ds).mono ?_
  rintro e w' ⟨rfl, h1, h2, hc⟩
  exact ⟨rfl, ⟨Nat.lt_of_lt_of_le h.lt hc.size, h.out, h.lm, h.mh, Nat.le_trans h.hs hc.size, (hc.cell h.lt h.out).trans h.c0, (hc.cell h.lt h.out).trans h.c1, (hc.cell h.lt h.out).trans h.c2, h1, h2⟩, hc⟩
theorem BxC.held {W : World} {b lo mid hi : Nat} {nm : ByteArray} {p q : Option Addr} {n m cp cq : Nat} {f : List Chn} {d : List Dfn} (h : BxC W b lo mid hi nm p q n m cp cq (marksCh 1 f) (marksDf (endCh 1 f) d)) (en : n = f.length) (em : m = d.length) (s : SmCol ⟨nm, f, d⟩) :
    Calls Tryz.prog 15 #[.agg #[.string nm, .slice p n cp, .slice q m cq], .int .i64 1] W fun e w' => e = .returned (.int .i64 ((endC f d : Nat) : Int)) ∧ Below W.heap.size W w' := by
  subst en em
  exact heldColl_any nm p q cp cq f d W h.ch.row h.df.row s.cl s.cs s.dl s.ds
theorem BxC.rd {W : World} {b lo mid hi : Nat} {nm : ByteArray} {g g2 : Nat} {n m cp cq : Nat} {f : List Chn} {d : List Dfn} (h : BxC W b lo mid hi nm (some ⟨g, 0, none⟩) (some ⟨g2, 0, none⟩) n m cp cq f d) : RdC W g g2 ⟨nm, f, d⟩ := rdC_of h.ch h.df

set_option maxRecDepth 4000 in
set_option maxHeartbeats 4000000 in
theorem specVacuum_any (c : Col) (t : Int) (g1 g2 : Nat) (cp cq : Nat) (w : World) (hr : RdC w g1 g2 c) (hs : SzCol c) :
    Calls Tryz.prog 10 #[.agg #[.string c.name, .slice (some ⟨g1, 0, none⟩) c.chs.length cp, .slice (some ⟨g2, 0, none⟩) c.dfs.length cq], .int .i64 t] w fun e w' => VacA (vacR c t) w e w' := by
  have M0 := MkQ.start w (.string c.name) (.slice (some ⟨g1, 0, none⟩) c.chs.length cp) (.slice (some ⟨g2, 0, none⟩) c.dfs.length cq) (.string em) (.slice none 0 0) (.slice none 0 0) 30 30
  have HC : Hid (∀ W : World, RdC W g1 g2 c → Calls _ _ _ W _) := fun W hW => specColl_any c (some ⟨g1, 0, none⟩) (some ⟨g2, 0, none⟩) cp cq W hW.ch.inCh hW.df hs
  have HR : Hid (RdC _ _ _ _) := hr
  have HSZ : Hid (SzCol c) := hs
  clear hr hs
  have d0 := M0.c0
  have d1 := M0.c1
  have d2 := M0.c2
  cases hB : collB c
  · have HV : Hid (vacR c t = none) := by show vacR c t = none; unfold vacR; rw [hB, if_neg (by simp)]
    rw [hB] at HC
    clear hB
    go_enter Tryz.func10, Tryz.ntmps10
    go_wp2_with fail
    generalize (w.alloc (.cells #[.string c.name, .slice (some ⟨g1, 0, none⟩) c.chs.length cp, .slice (some ⟨g2, 0, none⟩) c.dfs.length cq] 30)).alloc (.cells #[.string em, .slice none 0 0, .slice none 0 0] 30) = W0 at M0 d0 d1 d2 ⊢
    refine (HC.out _ (HR.out.next M0.bel)).mono ?_
    rintro e w1 ⟨rfl, hb⟩
    obtain ⟨mb, ml, mc0, mc1, mc2, mz0, ⟨r0, mr0⟩, ⟨r1, mr1⟩, ⟨r2, mr2⟩, my0⟩ := M0.next hb
    clear hb M0 d0 d1 d2
    go_wp2_with fail
    refine bodyPost_ret (v := .tuple #[.agg #[.string em, .slice none 0 0, .slice none 0 0], .int .i64 1]) (by simp [results, Tryz.results10, go_sem, *]) rfl ⟨?_, fun _ => rfl, fun c' h => by rw [HV.out] at h; cases h⟩
    (repeat (first | (with_reducible exact Below.refl _ _) | (with_reducible assumption) | (with_reducible apply below_drewN) | (with_reducible apply Below.drew) | ((with_reducible refine Below.setCell ?_ ?_ _); rotate_left; focus (first | (simp; done) | (simp; omega) | omega)) | ((with_reducible refine Below.alloc ?_ ?_ _); rotate_left; focus (first | (simp; done) | (simp; omega) | omega))))
  · have HV : Hid (vacR c t = some ⟨c.name, vacB t c.chs, c.dfs⟩) := by show vacR c t = _; unfold vacR; rw [hB, if_pos rfl]
    have hpt := collB_parts hB
    have hdf := collB_defs hB
    have HDF : Hid (_ ∧ _) := hdf
    have h20 := hpt.2.2.2.1
    have HPT : Hid (∀ x ∈ c.chs, topB x.id = true ∧ 1 ≤ x.vs.length ∧ x.vs.length ≤ 12 ∧ versB x.id 0 x.vs = true) := hpt.2.2.2.2.2
    rw [hB] at HC
    clear hB hpt hdf
    go_enter Tryz.func10, Tryz.ntmps10
    go_wp2_with fail
    generalize (w.alloc (.cells #[.string c.name, .slice (some ⟨g1, 0, none⟩) c.chs.length cp, .slice (some ⟨g2, 0, none⟩) c.dfs.length cq] 30)).alloc (.cells #[.string em, .slice none 0 0, .slice none 0 0] 30) = W0 at M0 d0 d1 d2 ⊢
    refine (HC.out _ (HR.out.next M0.bel)).mono ?_
    rintro e w1 ⟨rfl, hb⟩
    have M1 := M0.next hb
    have n0 := M1.c0
    have n1 := M1.c1
    have n2 := M1.c2
    clear hb M0 d0 d1 d2 HC
    go_wp2_with fail
    refine (l08Vacuum_any c t g1 g2 cp cq w1 (HR.out.next M1.bel) h20 HPT.out).mono ?_
    rintro e w2 ⟨⟨pk, ck, rfl, hrow⟩, hb⟩
    have HRW : Hid (RowCh _ _ _) := hrow
    have M2 := M1.next hb
    clear hb n0 n1 n2 hrow M1
    have hlv := vacB_len t c.chs
    go_wp2_with fail
    refine (specOwnC_any c.name pk (some ⟨g2, 0, none⟩) ck cq (vacB t c.chs) c.dfs w2 HRW.out (HR.out.next M2.bel).df (by omega) (fun p hp => ?_) (by have := HDF.out.1; omega) (fun p hp => ⟨by have := (HDF.out.2 p hp).2; omega, by have := (HDF.out.2 p hp).1; omega⟩)).mono ?_
    · obtain ⟨y, hy, _, h2, h3⟩ := vacB_mem hp
      refine ⟨?_, h3⟩
      rw [h2]
      exact Nat.le_trans (leftV_len t y.vs) (by have := (HPT.out y hy).2.2.1; omega)
    rintro e w9 ⟨⟨v9, u9, mid, rfl, hm1, hm2, hCh, hDf⟩, hb9⟩
    obtain ⟨pc9, cc9, rfl⟩ := hCh.slice
    obtain ⟨pd9, cd9, rfl⟩ := hDf.slice
    have HCh : Hid (OwnChH _ _ _ _ _) := hCh
    have HDf : Hid (OwnDfH _ _ _ _ _) := hDf
    have hw2 := M2.lt
    obtain ⟨mb, ml, mc0, mc1, mc2, mz0, ⟨r0, mr0⟩, ⟨r1, mr1⟩, ⟨r2, mr2⟩, my0⟩ := M2.next hb9
    clear hCh hDf hb9 M2
    go_wp2_with fail
    refine bodyPost_ret (v := .tuple #[.agg #[.string c.name, .slice pc9 (vacB t c.chs).length cc9, .slice pd9 c.dfs.length cd9], .int .i64 0]) (by simp [results, Tryz.results10, go_sem, *]) rfl ⟨?_, fun h => (by rw [HV.out] at h; cases h), fun c' h => ?_⟩
    · (repeat (first | (with_reducible exact Below.refl _ _) | (with_reducible assumption) | (with_reducible apply below_drewN) | (with_reducible apply Below.drew) | ((with_reducible refine Below.setCell ?_ ?_ _); rotate_left; focus (first | (simp; done) | (simp; omega) | omega)) | ((with_reducible refine Below.alloc ?_ ?_ _); rotate_left; focus (first | (simp; done) | (simp; omega) | omega))))
    · rw [HV.out] at h
      injection h with h
      subst h
      exact ⟨_, _, mid, rfl, by omega, by simp [World.setCell]; exact hm2, (chH_at (chH_at (chH_at HCh.out _ _ _ (by omega)) _ _ _ (by omega)) _ _ _ (by omega)).mono (by omega) (Nat.le_refl _), (dfH_at (dfH_at (dfH_at HDf.out _ _ _ (by omega)) _ _ _ (by omega)) _ _ _ (by omega)).mono (Nat.le_refl _) (by simp [World.setCell])⟩

end Go.Proofs.YtkafanjfjplakaaGreatDoor.Co
