/- Collections: what the laws' own helpers on them answer. -/
import Derived.Test.YtncpijfbbgipaaaGreatDoorColMR
import Derived.Test.YtncpijfbbgipaaaGreatDoorChgBQ
import Derived.Test.YtncpijfbbgipaaaGreatDoorDefIR
import Derived.Deep.Slices
import Derived.Deep.Strs
import Derived.ChangeSame
import Derived.Lib.SmallJoins
import Derived.OpenShut
import Derived.Test.YtncpijfbbgipaaaGreatDoorDocBR
import Derived.Deep.RegionHeld3
namespace Go.Proofs.YtncpijfbbgipaaaGreatDoor.Co
open Go.RowKit Tr
set_option linter.unusedVariables false

/-- A collection that came in. -/
structure InCol (w : World) (p q : Option Addr) (c : Col) : Prop where
  ch : InCh w p c.chs
  df : InDf w q c.dfs
theorem InCol.step {w w' : World} {p q : Option Addr} {c : Col} (h : InCol w p q c) (hb : Below w.heap.size w w') : InCol w' p q c := ⟨h.ch.step hb, h.df.step hb⟩
structure MaxCol (c : Col) : Prop where
  name : c.name.size ≤ maxLen
  chl : c.chs.length ≤ maxLen
  chs : ∀ v ∈ c.chs, maxCh v
  dfl : c.dfs.length ≤ maxLen
  dfs : ∀ v ∈ c.dfs, maxDf v
set_option maxRecDepth 4000 in
set_option maxHeartbeats 1000000 in
theorem szColl_at (c : Col) (p q : Option Addr) (cp cq : Nat) (c0 : Int) (w : World) (hin : InCol w p q c) (hm : MaxCol c) (h0 : 0 ≤ c0) (h1 : c0 ≤ 1048576) :
    Calls Tryz.prog 5 #[.agg #[.string c.name, .slice p c.chs.length cp, .slice q c.dfs.length cq], .int .i64 c0] w fun e w' => (∃ r : Int, e = .returned (.int .i64 r) ∧ (r < 0 ∨ (0 ≤ r ∧ r ≤ c0 ∧ SzCol c))) ∧ Below w.heap.size w w' := by
  have X0 := Boxed.start w (.string c.name) (.slice p c.chs.length cp) (.slice q c.dfs.length cq) 25
  have hbw0 := X0.bel
  have hn := hm.name
  unfold maxLen at hn
  by_cases hbig : c0 < (c.name.size : Int)
  · have hneg : c0 - (c.name.size : Int) < 0 := by omega
    clear hin hm
    go_enter Tryz.func5, Tryz.ntmps5
    go_wp2_with fail
    go_ret
    exact ⟨⟨-1, rfl, .inl (by omega)⟩, hbw0⟩
  · have hneg : ¬ (c0 - (c.name.size : Int) < 0) := by omega
    have HC : Hid (∀ W : World, Below w.heap.size w W → Calls _ _ _ W _) := fun W hW => szChainS_any p cp c.chs (c0 - (c.name.size : Int)) W (hin.ch.step hW) hm.chl hm.chs (by omega) (by omega)
    have HD : Hid (∀ (r : Int) (h0 : 0 ≤ r) (h1 : r ≤ 1048576) (W : World), Below w.heap.size w W → Calls Tryz.prog 17 #[.slice q c.dfs.length cq, .int .i64 r] W fun e w' => (∃ r' : Int, e = .returned (.int .i64 r') ∧ (r' < 0 ∨ (0 ≤ r' ∧ r' ≤ r ∧ c.dfs.length ≤ 1048576 ∧ ∀ l ∈ c.dfs, szDf l))) ∧ Below W.heap.size W w') := fun r h0 h1 W hW => szDefS_any q cq c.dfs r W (hin.df.step hW) hm.dfl hm.dfs h0 h1
    clear hin hm
    go_enter Tryz.func5, Tryz.ntmps5
    go_wp2_with fail
    refine (HC.out _ X0.bel).mono ?_
    rintro e w1 ⟨⟨r, rfl, hr⟩, hb⟩
    have X1 := X0.step hb
    have hbw := X1.bel
    have c2 := X1.c2
    clear hb HC
    rcases hr with hneg2 | ⟨hr0, hr1, hr2, hr3⟩
    · go_wp2_with fail
      go_ret
      exact ⟨⟨-1, rfl, .inl (by omega)⟩, hbw⟩
    · have hnn : ¬ r < 0 := by omega
      have HS : Hid (∀ v ∈ c.chs, szCh v) := hr3
      clear hr3
      go_wp2_with fail
      refine (HD.out r hr0 (by omega) _ X1.bel).mono ?_
      rintro e w2 ⟨⟨r2, rfl, hr⟩, hb⟩
      have hbw2 := (X1.step hb).bel
      clear hb HD
      rcases hr with hneg2 | ⟨ht0, ht1, ht2, ht3⟩
      · go_wp2_with fail
        go_ret
        exact ⟨⟨-1, rfl, .inl (by omega)⟩, hbw2⟩
      · have hnn2 : ¬ r2 < 0 := by omega
        have HS2 : Hid (∀ v ∈ c.dfs, szDf v) := ht3
        clear ht3
        go_wp2_with fail
        go_ret
        exact ⟨⟨r2, rfl, .inr ⟨ht0, by omega, ⟨by omega, hr2, HS.out, ht2, HS2.out⟩⟩⟩, hbw2⟩

/-- Chains, owned with all their versions, in blocks from lo on, below hi. -/
def OwnChH (w : World) (lo hi : Nat) (v : Value) (f : List Chn) : Prop := ∃ vs xs, PartCh w lo v f.length f f.length vs xs ∧ (∀ b, v.ownBlock = some b → b < hi) ∧ ∀ i, i < f.length → ∀ b, (vs i).ownBlock = some b → b < hi
theorem OwnCh.ownH {w : World} {lo : Nat} {v : Value} {f : List Chn} (h : OwnCh w lo v f) : OwnChH w lo w.heap.size v f := by
  obtain ⟨vs, xs, h⟩ := h
  exact ⟨vs, xs, h, fun b hb => (h.row.lt b hb).2, fun i hi b hb => (World.ownsRow.lt (h.ents i hi hi) b hb).2⟩
theorem OwnChH.own {w : World} {lo hi : Nat} {v : Value} {f : List Chn} (h : OwnChH w lo hi v f) : OwnCh w lo v f := by
  obtain ⟨vs, xs, h, _⟩ := h
  exact ⟨vs, xs, h⟩
theorem OwnChH.next {w w' : World} {lo hi : Nat} {v : Value} {f : List Chn} (h : OwnChH w lo hi v f) (hb : Below w.heap.size w w') : OwnChH w' lo hi v f := by
  obtain ⟨vs, xs, h, h2, h3⟩ := h
  exact ⟨vs, xs, h.next hb, h2, h3⟩
theorem OwnChH.mono {w : World} {lo lo' hi hi' : Nat} {v : Value} {f : List Chn} (h : OwnChH w lo hi v f) (hb : lo' ≤ lo) (hh : hi ≤ hi') : OwnChH w lo' hi' v f := by
  obtain ⟨vs, xs, h, h2, h3⟩ := h
  exact ⟨vs, xs, ⟨owns_mono h.row hb, h.at_, fun i hi hk => owns_mono (h.ents i hi hk) hb, h.apart, h.aside⟩, fun b e => Nat.lt_of_lt_of_le (h2 b e) hh, fun i hi b e => Nat.lt_of_lt_of_le (h3 i hi b e) hh⟩
theorem OwnChH.grown {w w' : World} {lo hi b : Nat} {v : Value} {f : List Chn} (h : OwnChH w lo hi v f) (hg : w.grownBy w' (some b)) (hb : b < lo) : OwnChH w' lo hi v f := by
  obtain ⟨vs, xs, h, h2, h3⟩ := h
  exact ⟨vs, xs, h.grown hg hb, h2, h3⟩
theorem OwnChH.chg {w w' : World} {lo hi lo' hi' : Nat} {v : Value} {f : List Chn} (h : OwnChH w lo hi v f) (hc : Chg lo' hi' w w') (ho : hi ≤ lo' ∨ hi' ≤ lo) : OwnChH w' lo hi v f := by
  obtain ⟨vs, xs, h, h2, h3⟩ := h
  refine ⟨vs, xs, ⟨hc.owns h.row (fun g hg => ?_), h.at_, fun i hi hk => hc.owns (h.ents i hi hk) (fun g hg => ?_), h.apart, h.aside⟩, h2, h3⟩
  · have h4 := h2 g hg; have h5 := (h.row.lt g hg).1; omega
  · have h4 := h3 i hi g hg; have h5 := (World.ownsRow.lt (h.ents i hi hk) g hg).1; omega
theorem InVr.rowOf {w : World} {g : Nat} {f : List Chn} (h : ReadCh w g f) : InCh w (some ⟨g, 0, none⟩) f :=
  .inr ⟨g, 0, rfl, h.lt, fun i hi => by rw [Nat.zero_add]; exact h.cells i hi⟩
theorem OwnChH.inCh {w : World} {lo hi g n c : Nat} {f : List Chn} (h : OwnChH w lo hi (.slice (some ⟨g, 0, none⟩) n c) f) : InCh w (some ⟨g, 0, none⟩) f := by
  rcases h.own.rowCh with h | ⟨g', e, h⟩
  · exact .inl (by rw [h]; rfl)
  · injection e with e; injection e with e; subst e; exact InVr.rowOf h
/-- Definitions, likewise. -/
def OwnDfH (w : World) (lo hi : Nat) (v : Value) (f : List Dfn) : Prop := ∃ vs xs, PartDf w lo v f.length f f.length vs xs ∧ (∀ b, v.ownBlock = some b → b < hi) ∧ ∀ i, i < f.length → ∀ b, (vs i).ownBlock = some b → b < hi
theorem OwnDf.ownH {w : World} {lo : Nat} {v : Value} {f : List Dfn} (h : OwnDf w lo v f) : OwnDfH w lo w.heap.size v f := by
  obtain ⟨vs, xs, h⟩ := h
  exact ⟨vs, xs, h, fun b hb => (h.row.lt b hb).2, fun i hi b hb => (World.ownsRow.lt (h.ents i hi hi) b hb).2⟩
theorem OwnDfH.own {w : World} {lo hi : Nat} {v : Value} {f : List Dfn} (h : OwnDfH w lo hi v f) : OwnDf w lo v f := by
  obtain ⟨vs, xs, h, _⟩ := h
  exact ⟨vs, xs, h⟩
theorem OwnDfH.next {w w' : World} {lo hi : Nat} {v : Value} {f : List Dfn} (h : OwnDfH w lo hi v f) (hb : Below w.heap.size w w') : OwnDfH w' lo hi v f := by
  obtain ⟨vs, xs, h, h2, h3⟩ := h
  exact ⟨vs, xs, h.next hb, h2, h3⟩
theorem OwnDfH.mono {w : World} {lo lo' hi hi' : Nat} {v : Value} {f : List Dfn} (h : OwnDfH w lo hi v f) (hb : lo' ≤ lo) (hh : hi ≤ hi') : OwnDfH w lo' hi' v f := by
  obtain ⟨vs, xs, h, h2, h3⟩ := h
  exact ⟨vs, xs, ⟨owns_mono h.row hb, h.at_, fun i hi hk => owns_mono (h.ents i hi hk) hb, h.apart, h.aside⟩, fun b e => Nat.lt_of_lt_of_le (h2 b e) hh, fun i hi b e => Nat.lt_of_lt_of_le (h3 i hi b e) hh⟩
theorem OwnDfH.grown {w w' : World} {lo hi b : Nat} {v : Value} {f : List Dfn} (h : OwnDfH w lo hi v f) (hg : w.grownBy w' (some b)) (hb : b < lo) : OwnDfH w' lo hi v f := by
  obtain ⟨vs, xs, h, h2, h3⟩ := h
  exact ⟨vs, xs, h.grown hg hb, h2, h3⟩
theorem OwnDfH.chg {w w' : World} {lo hi lo' hi' : Nat} {v : Value} {f : List Dfn} (h : OwnDfH w lo hi v f) (hc : Chg lo' hi' w w') (ho : hi ≤ lo' ∨ hi' ≤ lo) : OwnDfH w' lo hi v f := by
  obtain ⟨vs, xs, h, h2, h3⟩ := h
  refine ⟨vs, xs, ⟨hc.owns h.row (fun g hg => ?_), h.at_, fun i hi hk => hc.owns (h.ents i hi hk) (fun g hg => ?_), h.apart, h.aside⟩, h2, h3⟩
  · have h4 := h2 g hg; have h5 := (h.row.lt g hg).1; omega
  · have h4 := h3 i hi g hg; have h5 := (World.ownsRow.lt (h.ents i hi hk) g hg).1; omega
theorem OwnDfH.rowDf {w : World} {lo hi g n c : Nat} {f : List Dfn} (h : OwnDfH w lo hi (.slice (some ⟨g, 0, none⟩) n c) f) : RowDf w (some ⟨g, 0, none⟩) f := h.own.rowDf
theorem chH_at {w : World} {lo hi : Nat} {v : Value} {f : List Chn} (h : OwnChH w lo hi v f) (o g : Nat) (x : Value) (hg : g < lo) : OwnChH (w.setCell ⟨g, o, none⟩ x) lo hi v f := h.grown grown_set hg
theorem dfH_at {w : World} {lo hi : Nat} {v : Value} {f : List Dfn} (h : OwnDfH w lo hi v f) (o g : Nat) (x : Value) (hg : g < lo) : OwnDfH (w.setCell ⟨g, o, none⟩ x) lo hi v f := h.grown grown_set hg

set_option maxRecDepth 4000 in
set_option maxHeartbeats 2000000 in
theorem toColl_any (c : Col) (p q : Option Addr) (cp cq : Nat) (w : World) (hin : InCol w p q c) (hs : SzCol c) :
    Calls Tryz.prog 8 #[.agg #[.string c.name, .slice p c.chs.length cp, .slice q c.dfs.length cq]] w fun e w' => (∃ g1 g2 mid, e = .returned (.agg #[.string c.name, .slice (some ⟨g1, 0, none⟩) c.chs.length c.chs.length, .slice (some ⟨g2, 0, none⟩) c.dfs.length c.dfs.length]) ∧ OwnChH w' w.heap.size mid (.slice (some ⟨g1, 0, none⟩) c.chs.length c.chs.length) c.chs ∧ OwnDfH w' mid w'.heap.size (.slice (some ⟨g2, 0, none⟩) c.dfs.length c.dfs.length) c.dfs ∧ w.heap.size ≤ mid ∧ mid ≤ w'.heap.size) ∧ Below w.heap.size w w' := by
  have hb0 : Below w.heap.size w (((w.alloc (.cells #[.string c.name, .slice p c.chs.length cp, .slice q c.dfs.length cq] 25)).alloc (.cells #[.string em, .slice none 0 0, .slice none 0 0] 35)).alloc (.cells #[.string c.name, .slice none 0 0, .slice none 0 0] 35)) := (((Below.refl _ _).alloc (Nat.le_refl _) _).alloc (by simp) _).alloc (by simp; omega) _
  have HC : Hid (Calls _ _ _ _ _) := toChainS_any p cp c.chs _ (hin.ch.step hb0) hs.chl (fun l hl => (hs.chs l hl).1)
  have HD : Hid (∀ W : World, InDf W q c.dfs → Calls _ _ _ W _) := fun W hW => toDefS_any q cq c.dfs W hW hs.dfl (fun l hl => (hs.dfs l hl).2.1)
  have HI : Hid (InDf _ _ _) := hin.df
  clear hin hs
  go_enter Tryz.func8, Tryz.ntmps8
  go_wp2_with fail
  refine HC.out.mono ?_
  rintro e w1 ⟨⟨g1, rfl, hR⟩, hb⟩
  obtain ⟨hc, hf⟩ := bcell hb
  have hz : w.heap.size + 2 < w1.heap.size := by have := hb.size; simp at this; omega
  have hbw : Below w.heap.size w w1 := hb0.trans (hb.mono (by simp; omega))
  have hO1 : OwnChH w1 (w.heap.size + 3) w1.heap.size _ c.chs := (OwnCh.ownH hR).mono (by simp) (Nat.le_refl _)
  have HO1 : Hid (OwnChH _ _ _ _ _) := hO1
  clear hb HC hR hb0 hO1
  have hbS : Below w.heap.size w (w1.setCell ⟨w.heap.size + 2, 1, none⟩ (.slice (some ⟨g1, 0, none⟩) c.chs.length c.chs.length)) := hbw.setCell (by show w.heap.size ≤ w.heap.size + 2; omega) _
  have HD2 : Hid (Calls _ _ _ _ _) := HD.out (w1.setCell ⟨w.heap.size + 2, 1, none⟩ (.slice (some ⟨g1, 0, none⟩) c.chs.length c.chs.length)) (HI.out.step hbS)
  clear HD
  go_wp2_with fail
  refine HD2.out.mono ?_
  rintro e w2 ⟨⟨g2, rfl, hR⟩, hb⟩
  have hsz : (w1.setCell ⟨w.heap.size + 2, 1, none⟩ (.slice (some ⟨g1, 0, none⟩) c.chs.length c.chs.length)).heap.size = w1.heap.size := by simp [World.setCell]
  have hO2 : OwnChH w2 (w.heap.size + 3) w1.heap.size _ c.chs := (chH_at HO1.out 1 (w.heap.size + 2) _ (by omega)).next hb
  have hP2 : OwnDfH w2 w1.heap.size w2.heap.size _ c.dfs := (OwnDf.ownH hR).mono (by rw [hsz]; exact Nat.le_refl _) (Nat.le_refl _)
  obtain ⟨hc2, hf2⟩ := bcell hb
  rw [hsz] at hc2 hf2
  have hz2 : w1.heap.size ≤ w2.heap.size := by have := hb.size; rw [hsz] at this; exact this
  have hbw2 : Below w.heap.size w w2 := hbS.trans (hb.mono hbS.size)
  have hcl : ∀ o, w2.cell? ⟨w.heap.size + 2, o, none⟩ = (w1.setCell ⟨w.heap.size + 2, 1, none⟩ (.slice (some ⟨g1, 0, none⟩) c.chs.length c.chs.length)).cell? ⟨w.heap.size + 2, o, none⟩ := fun o => hc2 _ o (by omega)
  have k0 : w2.cell? ⟨w.heap.size + 2, 0, none⟩ = some (.string c.name) := by rw [hcl]; simp [go_sem, *]
  have k1 : w2.cell? ⟨w.heap.size + 2, 1, none⟩ = some (.slice (some ⟨g1, 0, none⟩) c.chs.length c.chs.length) := by rw [hcl]; simp [go_sem, *]
  have k2 : ∃ v, w2.cell? ⟨w.heap.size + 2, 2, none⟩ = some v := ⟨.slice none 0 0, by rw [hcl]; simp [go_sem, *]⟩
  obtain ⟨kv, k2⟩ := k2
  have HO2 : Hid (OwnChH _ _ _ _ _) := hO2
  have HP2 : Hid (OwnDfH _ _ _ _ _) := hP2
  have m0 : ∃ v, w2.cell? ⟨w.heap.size + 1, 0, none⟩ = some v := ⟨.string em, by rw [hc2 _ _ (by omega)]; simp [go_sem, *]⟩
  have m1 : ∃ v, w2.cell? ⟨w.heap.size + 1, 1, none⟩ = some v := ⟨.slice none 0 0, by rw [hc2 _ _ (by omega)]; simp [go_sem, *]⟩
  have m2 : ∃ v, w2.cell? ⟨w.heap.size + 1, 2, none⟩ = some v := ⟨.slice none 0 0, by rw [hc2 _ _ (by omega)]; simp [go_sem, *]⟩
  obtain ⟨v0, m0⟩ := m0
  obtain ⟨v1, m1⟩ := m1
  obtain ⟨v2, m2⟩ := m2
  have n0 : ∀ o, w2.frozen? ⟨w.heap.size + 2, o, none⟩ = false := fun o => by rw [hf2 _ _ (by omega)]; simp [go_sem, *]
  have n1 : ∀ o, w2.frozen? ⟨w.heap.size + 1, o, none⟩ = false := fun o => by rw [hf2 _ _ (by omega)]; simp [go_sem, *]
  clear hb HD2 hR hO2 hP2 HO1 hc hf hc2 hf2 hcl hbS hsz hbw
  go_wp2_with fail
  refine bodyPost_ret (v := .agg #[.string c.name, .slice (some ⟨g1, 0, none⟩) c.chs.length c.chs.length, .slice (some ⟨g2, 0, none⟩) c.dfs.length c.dfs.length]) (by simp [results, Tryz.results8, go_sem, *]) rfl ⟨⟨g1, g2, w1.heap.size, rfl, ?_, ?_, by omega, ?_⟩, ?_⟩
  · exact OwnChH.mono (chH_at (chH_at (chH_at (chH_at HO2.out _ _ _ (by omega)) _ _ _ (by omega)) _ _ _ (by omega)) _ _ _ (by omega)) (by omega) (Nat.le_refl _)
  · refine OwnDfH.mono (dfH_at (dfH_at (dfH_at (dfH_at HP2.out _ _ _ (by omega)) _ _ _ (by omega)) _ _ _ (by omega)) _ _ _ (by omega)) (Nat.le_refl _) (by simp [World.setCell])
  · simp [World.setCell]; omega
  · (repeat (first | (with_reducible exact Below.refl _ _) | (with_reducible assumption) | (with_reducible apply below_drewN) | (with_reducible apply Below.drew) | ((with_reducible refine Below.setCell ?_ ?_ _); rotate_left; focus (first | (simp; done) | (simp; omega) | omega)) | ((with_reducible refine Below.alloc ?_ ?_ _); rotate_left; focus (first | (simp; done) | (simp; omega) | omega))))
set_option maxRecDepth 4000 in
set_option maxHeartbeats 1000000 in
theorem eqColl_same (n : ByteArray) (p1 p2 q1 q2 : Option Addr) (c1 c2 d1 d2 : Nat) (c : List Chn) (f : List Dfn) (w : World) (h1 : RowCh w p1 c) (h2 : RowCh w p2 c) (k1 : RowDf w q1 f) (k2 : RowDf w q2 f) (hcl : c.length ≤ 1048576) (hcs : ∀ l ∈ c, l.vs.length ≤ 1048576) (hfl : f.length ≤ 1048576) (hfs : ∀ l ∈ f, l.ps.length ≤ 1048576) :
    Calls Tryz.prog 11 #[.agg #[.string n, .slice p1 c.length c1, .slice q1 f.length d1], .agg #[.string n, .slice p2 c.length c2, .slice q2 f.length d2]] w fun e w' => e = .returned (.bool true) ∧ Below w.heap.size w w' := by
  have X0 := Two.start w (.string n) (.slice p1 c.length c1) (.slice q1 f.length d1) (.string n) (.slice p2 c.length c2) (.slice q2 f.length d2) 35
  have HC : Hid (∀ W : World, Below w.heap.size w W → Calls _ _ _ W _) := fun W hW => eqChainS_same p1 p2 c1 c2 c W (h1.next hW) (h2.next hW) hcl hcs
  have HD : Hid (∀ W : World, Below w.heap.size w W → Calls _ _ _ W _) := fun W hW => eqDefS_same q1 q2 d1 d2 f W (k1.next hW) (k2.next hW) hfl hfs
  clear h1 h2 k1 k2 hcs hfs
  go_enter Tryz.func11, Tryz.ntmps11
  go_wp2_with fail
  refine (HC.out _ X0.bel).mono ?_
  rintro e w1 ⟨rfl, hb⟩
  have X1 := X0.step hb
  have y0 := X1.c2
  have y1 := X1.d2
  clear hb HC
  go_wp2_with fail
  refine (HD.out _ X1.bel).mono ?_
  rintro e w2 ⟨rfl, hb⟩
  have hbw := (X1.step hb).bel
  clear hb HD
  go_wp2_with fail
  go_ret
  exact ⟨rfl, hbw⟩

end Go.Proofs.YtncpijfbbgipaaaGreatDoor.Co

/- A definition that comes in, opened. -/
namespace Go.Proofs.YtncpijfbbgipaaaGreatDoor.Tr
open Go.RowKit Go.Joins Go.Deep Go.ChangeShapes Go.WideShapes Go.ChangeAt
set_option linter.unusedVariables false

instance : Inhabited Prt := ⟨zpt⟩
theorem cellsODp : Tryz.prog.cellsOf 139 = 2 := by kernel_rfl
theorem cellsODd : Tryz.prog.cellsOf 81 = 2 := by kernel_rfl
theorem cellsOB : Tryz.prog.cellsOf 4 = 1 := by kernel_rfl
theorem cellsOS : Tryz.prog.cellsOf 9 = 1 := by kernel_rfl
theorem cellsODq : Tryz.prog.cellsOf 79 = 1 := by kernel_rfl
set_option maxRecDepth 100000 in
theorem open_part_cells {H : Type} {enc : TypeId × Value → H} {w : World} {base : Nat} {spare : Nat → Bool} {held : Bool} {fuel : Nat} {c0 c1 : Value} {x : DataW H × List MemPlace}
    (h : DataW.trod enc Tryz.prog w base spare held fuel 139 [c0, c1] = some x) :
    ∃ (k : ByteArray) (i : Bool), c0 = .string k ∧ c1 = .bool i ∧ k.size ≤ maxLen := by
  obtain ⟨y0, y1, m, _, _, t0, t1⟩ := trod_struct2 Tryz.underlying139 h
  obtain ⟨z0, e0, _, hk⟩ := DataW.trod_string Tryz.underlying9 t0
  obtain ⟨z1, e1, _⟩ := DataW.trod_bool Tryz.underlying4 t1
  simp [cellsOB, cellsOS] at e0 e1
  exact ⟨z0, z1, e0, e1, hk⟩
set_option maxRecDepth 100000 in
theorem open_parts {H : Type} {enc : TypeId × Value → H} {w : World} {base : Nat} {spare : Nat → Bool} {held : Bool} {fuel : Nat} {cs : List Value} {x : DataW H × List MemPlace}
    (h : DataW.trod enc Tryz.prog w base spare held fuel 79 cs = some x) :
    ∃ (a : Option Addr) (len cap : Nat) (l : List Prt), cs = [.slice a len cap] ∧ l.length = len ∧ (l.length ≤ maxLen ∧ ∀ v ∈ l, maxPt v) ∧ InD w a l := by
  rcases open_slice Tryz.underlying79 h with ⟨rfl, _⟩ | ⟨a, len, cap, m, n, D, Pl, rfl, hb, hl, hm, hmm, _, hx⟩
  · exact ⟨none, 0, 0, [], rfl, rfl, ⟨Nat.zero_le _, (fun v hv => by simp at hv)⟩, .inl rfl⟩
  · have hlm : len ≤ m := by rw [hmm]; split <;> omega
    rw [cellsODp] at hx
    obtain ⟨f, hf⟩ := choose_lt (α := Prt) (n := len) (p := fun i t => w.cell? (a.add (i * 2)) = some (.string t.path) ∧ w.cell? ((a.add (i * 2)).add 1) = some (.bool t.desc) ∧ maxPt t) (fun i hi => by
      obtain ⟨cs', h1, h2⟩ := hx i (by omega)
      obtain ⟨_, hlen, hc⟩ := World.cells?_some h1
      match cs', hlen with
      | [c0, c1], _ =>
        obtain ⟨k, id, rfl, rfl, hk⟩ := open_part_cells h2
        refine ⟨⟨k, id⟩, ?_, ?_, hk⟩
        · have := hc 0 (by omega); simpa [Addr.add] using this
        · exact hc 1 (by omega))
    refine ⟨some a, len, cap, (List.range len).map f, rfl, by simp, ⟨by simp; omega, ?_⟩, ?_⟩
    · intro v hv
      obtain ⟨i, hi, rfl⟩ := List.mem_map.mp hv
      exact (hf i (by simpa using hi)).2.2
    · by_cases h0 : len = 0
      · exact .inl (by simp [h0])
      · obtain ⟨b, off, spot⟩ := a
        have hc0 := (hf 0 (by omega)).1
        have hspot : spot = none := by simpa [Addr.add] using World.cell?_spot hc0
        subst hspot
        have hlt : b < w.heap.size := by
          rcases Nat.lt_or_ge b w.heap.size with h | h
          · exact h
          · simp [World.cell?, Addr.add, Array.getElem?_eq_none h] at hc0
        refine .inr ⟨b, off, rfl, hlt, fun i hi => ?_⟩
        have hi2 : i < len := by simpa using hi
        have := hf i hi2
        simp only [addO] at this
        simp only [List.getElem_map, List.getElem_range]
        exact ⟨this.1, this.2.1⟩
set_option maxRecDepth 100000 in
theorem open_def {H : Type} {enc : TypeId × Value → H} {w : World} {base b0 : Nat} {spare : Nat → Bool} {held : Bool} {r : Reach} {v : Value} {d : DataW H} {ps : List MemPlace}
    (hv : Value.okWide Tryz.prog w r b0 81 v) (h : DataW.Trod enc Tryz.prog w base spare held 81 v d ps) :
    ∃ (n : ByteArray) (a : Option Addr) (cap : Nat) (l : List Prt), v = .agg #[.string n, .slice a l.length cap] ∧ n.size ≤ maxLen ∧ l.length ≤ maxLen ∧ (∀ v ∈ l, maxPt v) ∧ InD w a l := by
  obtain ⟨cs, rfl, hsz⟩ := okWide_struct Tryz.underlying81 hv
  obtain ⟨fuel, hf⟩ := h
  rw [cellsODd] at hsz
  obtain ⟨l⟩ := cs
  match l, hsz with
  | [c0, c1], _ =>
    obtain ⟨y0, y1, n', _, _, t0, t1⟩ := trod_struct2 Tryz.underlying81 (show DataW.trod enc Tryz.prog w base spare held fuel 81 [c0, c1] = some _ by simpa [Value.cells] using hf)
    obtain ⟨z0, e0, _, hk⟩ := DataW.trod_string Tryz.underlying9 t0
    obtain ⟨p, ln, c, f, e, hln, h1, h3⟩ := open_parts t1
    simp [cellsODq, cellsOS] at e e0
    subst e e0 hln
    exact ⟨z0, p, c, f, rfl, hk, h1.1, h1.2, h3⟩

end Go.Proofs.YtncpijfbbgipaaaGreatDoor.Tr

/- A collection that comes in, opened: chains, each with its versions, and definitions, each with its parts, at their places. -/
namespace Go.Proofs.YtncpijfbbgipaaaGreatDoor.Co
open Go.RowKit Go.Joins Go.Deep Go.ChangeShapes Go.WideShapes Go.ChangeAt Tr
set_option linter.unusedVariables false

instance : Inhabited Ver := ⟨zVr⟩
instance : Inhabited Chn := ⟨⟨0, []⟩⟩
instance : Inhabited Dfn := ⟨⟨em, []⟩⟩
theorem cellsVr : Tryz.prog.cellsOf 137 = 5 := by kernel_rfl
theorem cellsCh : Tryz.prog.cellsOf 77 = 2 := by kernel_rfl
theorem cellsDf : Tryz.prog.cellsOf 81 = 2 := by kernel_rfl
theorem cellsCo : Tryz.prog.cellsOf 25 = 3 := by kernel_rfl
theorem cellsVs : Tryz.prog.cellsOf 75 = 1 := by kernel_rfl
theorem cellsPs : Tryz.prog.cellsOf 79 = 1 := by kernel_rfl
theorem cellsCs : Tryz.prog.cellsOf 22 = 1 := by kernel_rfl
theorem cellsDs : Tryz.prog.cellsOf 23 = 1 := by kernel_rfl

set_option maxRecDepth 100000 in
theorem open_version_cells {H : Type} {enc : TypeId × Value → H} {w : World} {base : Nat} {spare : Nat → Bool} {held : Bool} {fuel : Nat} {c0 c1 c2 c3 c4 : Value} {x : DataW H × List MemPlace}
    (h : DataW.trod enc Tryz.prog w base spare held fuel 137 [c0, c1, c2, c3, c4] = some x) :
    ∃ (op : Int) (p : Bool) (k n : Int) (t : ByteArray), c0 = .int .i64 op ∧ c1 = .bool p ∧ c2 = .int .i64 k ∧ c3 = .int .i64 n ∧ c4 = .string t ∧ t.size ≤ maxLen := by
  obtain ⟨y0, y1, y2, m, _, _, t0, t1, t2⟩ := trod_struct3 Tryz.underlying137 h
  obtain ⟨z0, e0, _, _⟩ := DataW.trod_int Tryz.underlying3 t0
  obtain ⟨z1, e1, _⟩ := DataW.trod_bool Tryz.underlying4 t1
  obtain ⟨u0, u1, u2, m2, _, _, s0, s1, s2⟩ := trod_struct3 Tryz.underlying27 t2
  obtain ⟨z2, e2, _, _⟩ := DataW.trod_int Tryz.underlying3 s0
  obtain ⟨z3, e3, _, _⟩ := DataW.trod_int Tryz.underlying3 s1
  obtain ⟨z4, e4, _, ht⟩ := DataW.trod_string Tryz.underlying9 s2
  simp [cellsI1, cellsS1, cellsVv, cellsB1] at e0 e1 e2 e3 e4
  exact ⟨z0, z1, z2, z3, z4, e0, e1, e2, e3, e4, ht⟩

set_option maxRecDepth 100000 in
theorem open_versions {H : Type} {enc : TypeId × Value → H} {w : World} {base : Nat} {spare : Nat → Bool} {held : Bool} {fuel : Nat} {cs : List Value} {x : DataW H × List MemPlace}
    (h : DataW.trod enc Tryz.prog w base spare held fuel 75 cs = some x) :
    ∃ (a : Option Addr) (len cap : Nat) (l : List Ver), cs = [.slice a len cap] ∧ l.length = len ∧ (l.length ≤ maxLen ∧ ∀ v ∈ l, maxVr v) ∧ InVr w a l := by
  rcases open_slice Tryz.underlying75 h with ⟨rfl, _⟩ | ⟨a, len, cap, m, n, D, Pl, rfl, hb, hl, hm, hmm, _, hx⟩
  · exact ⟨none, 0, 0, [], rfl, rfl, ⟨Nat.zero_le _, (fun v hv => by simp at hv)⟩, .inl rfl⟩
  · have hlm : len ≤ m := by rw [hmm]; split <;> omega
    rw [cellsVr] at hx
    obtain ⟨f, hf⟩ := choose_lt (α := Ver) (n := len) (p := fun i t => w.cell? (a.add (i * 5)) = some (.int .i64 t.tm) ∧ w.cell? ((a.add (i * 5)).add 1) = some (.bool t.gone) ∧ w.cell? ((a.add (i * 5)).add 2) = some (.int .i64 t.doc.k) ∧ w.cell? ((a.add (i * 5)).add 3) = some (.int .i64 t.doc.n) ∧ w.cell? ((a.add (i * 5)).add 4) = some (.string t.doc.t) ∧ maxVr t) (fun i hi => by
      obtain ⟨cs', h1, h2⟩ := hx i (by omega)
      obtain ⟨_, hlen, hc⟩ := World.cells?_some h1
      match cs', hlen with
      | [c0, c1, c2, c3, c4], _ =>
        obtain ⟨op, p, k, n, t, rfl, rfl, rfl, rfl, rfl, ht⟩ := open_version_cells h2
        refine ⟨⟨op, p, ⟨k, n, t⟩⟩, ?_, ?_, ?_, ?_, ?_, ht⟩
        · have := hc 0 (by omega); simpa [Addr.add] using this
        · exact hc 1 (by omega)
        · exact hc 2 (by omega)
        · exact hc 3 (by omega)
        · exact hc 4 (by omega))
    refine ⟨some a, len, cap, (List.range len).map f, rfl, by simp, ⟨by simp; omega, ?_⟩, ?_⟩
    · intro v hv
      obtain ⟨i, hi, rfl⟩ := List.mem_map.mp hv
      exact (hf i (by simpa using hi)).2.2.2.2.2
    · by_cases h0 : len = 0
      · exact .inl (by simp [h0])
      · obtain ⟨b, off, spot⟩ := a
        have hc0 := (hf 0 (by omega)).1
        have hspot : spot = none := by simpa [Addr.add] using World.cell?_spot hc0
        subst hspot
        have hlt : b < w.heap.size := by
          rcases Nat.lt_or_ge b w.heap.size with h | h
          · exact h
          · simp [World.cell?, Addr.add, Array.getElem?_eq_none h] at hc0
        refine .inr ⟨b, off, rfl, hlt, fun i hi => ?_⟩
        have hi2 : i < len := by simpa using hi
        have := hf i hi2
        simp only [addO] at this
        simp only [List.getElem_map, List.getElem_range]
        exact ⟨this.1, this.2.1, this.2.2.1, this.2.2.2.1, this.2.2.2.2.1⟩

set_option maxRecDepth 100000 in
theorem open_chains {H : Type} {enc : TypeId × Value → H} {w : World} {base : Nat} {spare : Nat → Bool} {held : Bool} {fuel : Nat} {cs : List Value} {x : DataW H × List MemPlace}
    (h : DataW.trod enc Tryz.prog w base spare held fuel 22 cs = some x) :
    ∃ (a : Option Addr) (len cap : Nat) (f : List Chn), cs = [.slice a len cap] ∧ f.length = len ∧ f.length ≤ maxLen ∧ (∀ l ∈ f, maxCh l) ∧ InCh w a f := by
  rcases open_slice Tryz.underlying22 h with ⟨rfl, _⟩ | ⟨a, len, cap, m, n, D, Pl, rfl, hb, hl, hm, hmm, _, hx⟩
  · exact ⟨none, 0, 0, [], rfl, rfl, Nat.zero_le _, (fun v hv => by simp at hv), .inl rfl⟩
  · have hlm : len ≤ m := by rw [hmm]; split <;> omega
    rw [cellsCh] at hx
    obtain ⟨f, hf⟩ := choose_lt (α := Chn) (n := len) (p := fun i l => w.cell? (a.add (i * 2)) = some (.int .i64 l.id) ∧ ∃ p c, w.cell? ((a.add (i * 2)).add 1) = some (.slice p l.vs.length c) ∧ maxCh l ∧ InVr w p l.vs) (fun i hi => by
      obtain ⟨cs', h1, h2⟩ := hx i (by omega)
      obtain ⟨_, hlen, hc⟩ := World.cells?_some h1
      match cs', hlen with
      | [c0, c1], _ =>
        obtain ⟨y0, y1, n', _, _, t0, t1⟩ := trod_struct2 Tryz.underlying77 h2
        obtain ⟨z0, e0, _, _⟩ := DataW.trod_int Tryz.underlying3 t0
        obtain ⟨p, ln, c, l, e, hln, hmx, hT⟩ := open_versions t1
        simp [cellsVs, cellsI1] at e e0
        subst e e0 hln
        refine ⟨⟨z0, l⟩, ?_, p, c, ?_, hmx, hT⟩
        · have := hc 0 (by omega); simpa [Addr.add] using this
        · exact hc 1 (by omega))
    refine ⟨some a, len, cap, (List.range len).map f, rfl, by simp, by simp; omega, ?_, ?_⟩
    · intro v hv
      obtain ⟨i, hi, rfl⟩ := List.mem_map.mp hv
      obtain ⟨_, p, c, _, h2, _⟩ := hf i (by simpa using hi)
      exact h2
    · by_cases h0 : len = 0
      · exact .inl (by simp [h0])
      · obtain ⟨b, off, spot⟩ := a
        obtain ⟨hc0, _⟩ := hf 0 (by omega)
        have hspot : spot = none := by simpa [Addr.add] using World.cell?_spot hc0
        subst hspot
        have hlt : b < w.heap.size := by
          rcases Nat.lt_or_ge b w.heap.size with h | h
          · exact h
          · simp [World.cell?, Addr.add, Array.getElem?_eq_none h] at hc0
        refine .inr ⟨b, off, rfl, hlt, fun i hi => ?_⟩
        have hi2 : i < len := by simpa using hi
        obtain ⟨h0, p, c, h1, h2, h3⟩ := hf i hi2
        simp only [addO] at h0 h1
        simp only [List.getElem_map, List.getElem_range]
        exact ⟨h0, p, c, h1, h3⟩

set_option maxRecDepth 100000 in
theorem open_defs {H : Type} {enc : TypeId × Value → H} {w : World} {base : Nat} {spare : Nat → Bool} {held : Bool} {fuel : Nat} {cs : List Value} {x : DataW H × List MemPlace}
    (h : DataW.trod enc Tryz.prog w base spare held fuel 23 cs = some x) :
    ∃ (a : Option Addr) (len cap : Nat) (f : List Dfn), cs = [.slice a len cap] ∧ f.length = len ∧ f.length ≤ maxLen ∧ (∀ l ∈ f, maxDf l) ∧ InDf w a f := by
  rcases open_slice Tryz.underlying23 h with ⟨rfl, _⟩ | ⟨a, len, cap, m, n, D, Pl, rfl, hb, hl, hm, hmm, _, hx⟩
  · exact ⟨none, 0, 0, [], rfl, rfl, Nat.zero_le _, (fun v hv => by simp at hv), .inl rfl⟩
  · have hlm : len ≤ m := by rw [hmm]; split <;> omega
    rw [cellsDf] at hx
    obtain ⟨f, hf⟩ := choose_lt (α := Dfn) (n := len) (p := fun i l => w.cell? (a.add (i * 2)) = some (.string l.name) ∧ ∃ p c, w.cell? ((a.add (i * 2)).add 1) = some (.slice p l.ps.length c) ∧ maxDf l ∧ InD w p l.ps) (fun i hi => by
      obtain ⟨cs', h1, h2⟩ := hx i (by omega)
      obtain ⟨_, hlen, hc⟩ := World.cells?_some h1
      match cs', hlen with
      | [c0, c1], _ =>
        obtain ⟨y0, y1, n', _, _, t0, t1⟩ := trod_struct2 Tryz.underlying81 h2
        obtain ⟨z0, e0, _, hz0⟩ := DataW.trod_string Tryz.underlying9 t0
        obtain ⟨p, ln, c, l, e, hln, hmx, hT⟩ := open_parts t1
        simp [cellsPs, cellsS1] at e e0
        subst e e0 hln
        refine ⟨⟨z0, l⟩, ?_, p, c, ?_, ⟨hz0, hmx⟩, hT⟩
        · have := hc 0 (by omega); simpa [Addr.add] using this
        · exact hc 1 (by omega))
    refine ⟨some a, len, cap, (List.range len).map f, rfl, by simp, by simp; omega, ?_, ?_⟩
    · intro v hv
      obtain ⟨i, hi, rfl⟩ := List.mem_map.mp hv
      obtain ⟨_, p, c, _, h2, _⟩ := hf i (by simpa using hi)
      exact h2
    · by_cases h0 : len = 0
      · exact .inl (by simp [h0])
      · obtain ⟨b, off, spot⟩ := a
        obtain ⟨hc0, _⟩ := hf 0 (by omega)
        have hspot : spot = none := by simpa [Addr.add] using World.cell?_spot hc0
        subst hspot
        have hlt : b < w.heap.size := by
          rcases Nat.lt_or_ge b w.heap.size with h | h
          · exact h
          · simp [World.cell?, Addr.add, Array.getElem?_eq_none h] at hc0
        refine .inr ⟨b, off, rfl, hlt, fun i hi => ?_⟩
        have hi2 : i < len := by simpa using hi
        obtain ⟨h0, p, c, h1, h2, h3⟩ := hf i hi2
        simp only [addO] at h0 h1
        simp only [List.getElem_map, List.getElem_range]
        exact ⟨h0, p, c, h1, h3⟩

set_option maxRecDepth 100000 in
theorem open_coll {H : Type} {enc : TypeId × Value → H} {w : World} {base b0 : Nat} {spare : Nat → Bool} {held : Bool} {r : Reach} {v : Value} {d : DataW H} {ps : List MemPlace}
    (hv : Value.okWide Tryz.prog w r b0 25 v) (h : DataW.Trod enc Tryz.prog w base spare held 25 v d ps) :
    ∃ (c : Col) (p q : Option Addr) (cp cq : Nat), v = .agg #[.string c.name, .slice p c.chs.length cp, .slice q c.dfs.length cq] ∧ MaxCol c ∧ InCol w p q c := by
  obtain ⟨cs, rfl, hsz⟩ := okWide_struct Tryz.underlying25 hv
  obtain ⟨fuel, hf⟩ := h
  rw [cellsCo] at hsz
  obtain ⟨l⟩ := cs
  match l, hsz with
  | [c0, c1, c2], _ =>
    obtain ⟨y0, y1, y2, n', _, _, t0, t1, t2⟩ := trod_struct3 Tryz.underlying25 (show DataW.trod enc Tryz.prog w base spare held fuel 25 [c0, c1, c2] = some _ by simpa [Value.cells] using hf)
    obtain ⟨z0, e0, _, hz0⟩ := DataW.trod_string Tryz.underlying9 t0
    obtain ⟨p, ln, cp, f, e1, hln, h1, h2, h3⟩ := open_chains t1
    obtain ⟨q, ln2, cq, g, e2, hln2, k1, k2, k3⟩ := open_defs t2
    simp [cellsS1, cellsCs, cellsDs] at e0 e1 e2
    subst e0 e1 e2 hln hln2
    exact ⟨⟨z0, f, g⟩, p, q, cp, cq, rfl, ⟨hz0, h1, h2, k1, k2⟩, ⟨h3, k3⟩⟩

end Go.Proofs.YtncpijfbbgipaaaGreatDoor.Co

/- What the laws on collections lean on, together. -/
namespace Go.Proofs.YtncpijfbbgipaaaGreatDoor.Co
open Go.RowKit Tr
set_option linter.unusedVariables false

/-- A collection that can be read, its rows at the heads of their blocks. -/
structure RdCol (w : World) (g1 g2 : Nat) (c : Col) : Prop where
  ch : RowCh w (some ⟨g1, 0, none⟩) c.chs
  df : RowDf w (some ⟨g2, 0, none⟩) c.dfs
theorem RdCol.next {w w' : World} {g1 g2 : Nat} {c : Col} (h : RdCol w g1 g2 c) (hb : Below w.heap.size w w') : RdCol w' g1 g2 c := ⟨h.ch.next hb, h.df.next hb⟩
theorem RdCol.inCh {w : World} {g1 g2 : Nat} {c : Col} (h : RdCol w g1 g2 c) : InCh w (some ⟨g1, 0, none⟩) c.chs := by
  rcases h.ch with h | ⟨g, e, h⟩
  · exact .inl (by rw [h]; rfl)
  · injection e with e; injection e with e; subst e; exact InVr.rowOf h
theorem rdCol_of {w : World} {lo mid hi g1 g2 n m c1 c2 : Nat} {c : Col} (h1 : OwnChH w lo mid (.slice (some ⟨g1, 0, none⟩) n c1) c.chs) (h2 : OwnDfH w mid hi (.slice (some ⟨g2, 0, none⟩) m c2) c.dfs) : RdCol w g1 g2 c := ⟨h1.own.rowCh, h2.own.rowDf⟩
theorem SzCol.vs {c : Col} (h : SzCol c) : ∀ l ∈ c.chs, l.vs.length ≤ 1048576 := fun l hl => (h.chs l hl).1
theorem SzCol.ps {c : Col} (h : SzCol c) : ∀ l ∈ c.dfs, l.ps.length ≤ 1048576 := fun l hl => (h.dfs l hl).2.1
/-- The laws' own collection and the program's, in their boxes. -/
theorem keepC {w W w0 : World} {a b c : Value} {bx : Nat} {x y z : Value} (X : Boxed w W a b c) (m : bx < W.heap.size) (e0 : W.cell? ⟨bx, 0, none⟩ = some x) (e1 : W.cell? ⟨bx, 1, none⟩ = some y) (e2 : W.cell? ⟨bx, 2, none⟩ = some z) (hb : Below W.heap.size W w0) :
    w0.cell? ⟨w.heap.size, 0, none⟩ = some a ∧ w0.cell? ⟨w.heap.size, 1, none⟩ = some b ∧ w0.cell? ⟨w.heap.size, 2, none⟩ = some c ∧ w0.cell? ⟨bx, 0, none⟩ = some x ∧ w0.cell? ⟨bx, 1, none⟩ = some y ∧ w0.cell? ⟨bx, 2, none⟩ = some z :=
  ⟨(X.step hb).c0, (X.step hb).c1, (X.step hb).c2, (hb.cell m).trans e0, (hb.cell m).trans e1, (hb.cell m).trans e2⟩

end Go.Proofs.YtncpijfbbgipaaaGreatDoor.Co
