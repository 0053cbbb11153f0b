/- Collections: what the laws' own helpers on them answer. -/
import Derived.Test.YtpfbepbmiillbaaGreatDoorColSR
import Derived.Test.YtpfbepbmiillbaaGreatDoorChgBQ
namespace Go.Proofs.YtpfbepbmiillbaaGreatDoor.Co
open Go.RowKit Tr
set_option linter.unusedVariables false

/-- A collection that came in. -/
structure InCol (w : World) (p q : Option Addr) (c : Col) : Prop where
  ch : InCh w p c.chs
  df : InDf w q c.dfs
theorem InCol.step {w w' : World} {p q : Option Addr} {c : Col} (h : InCol w p q c) (hb : Below w.heap.size w w') : InCol w' p q c := ⟨h.ch.step hb, h.df.step hb⟩
structure MaxCol (c : Col) : Prop where
  name : c.name.size ≤ maxLen
  chl : c.chs.length ≤ maxLen
  chs : ∀ v ∈ c.chs, maxCh v
  dfl : c.dfs.length ≤ maxLen
  dfs : ∀ v ∈ c.dfs, maxDf v
/-- Chains, owned with all their versions, in blocks from lo on, below hi. -/
def OwnChH (w : World) (lo hi : Nat) (v : Value) (f : List Chn) : Prop := ∃ vs xs, PartCh w lo v f.length f f.length vs xs ∧ (∀ b, v.ownBlock = some b → b < hi) ∧ ∀ i, i < f.length → ∀ b, (vs i).ownBlock = some b → b < hi
theorem OwnCh.ownH {w : World} {lo : Nat} {v : Value} {f : List Chn} (h : OwnCh w lo v f) : OwnChH w lo w.heap.size v f := by
  obtain ⟨vs, xs, h⟩ := h
  exact ⟨vs, xs, h, fun b hb => (h.row.lt b hb).2, fun i hi b hb => (World.ownsRow.lt (h.ents i hi hi) b hb).2⟩
theorem OwnChH.own {w : World} {lo hi : Nat} {v : Value} {f : List Chn} (h : OwnChH w lo hi v f) : OwnCh w lo v f := by
  obtain ⟨vs, xs, h, _⟩ := h
  exact ⟨vs, xs, h⟩
theorem OwnChH.next {w w' : World} {lo hi : Nat} {v : Value} {f : List Chn} (h : OwnChH w lo hi v f) (hb : Below w.heap.size w w') : OwnChH w' lo hi v f := by
  obtain ⟨vs, xs, h, h2, h3⟩ := h
  exact ⟨vs, xs, h.next hb, h2, h3⟩
theorem OwnChH.mono {w : World} {lo lo' hi hi' : Nat} {v : Value} {f : List Chn} (h : OwnChH w lo hi v f) (hb : lo' ≤ lo) (hh : hi ≤ hi') : OwnChH w lo' hi' v f := by
  obtain ⟨vs, xs, h, h2, h3⟩ := h
  exact ⟨vs, xs, ⟨owns_mono h.row hb, h.at_, fun i hi hk => owns_mono (h.ents i hi hk) hb, h.apart, h.aside⟩, fun b e => Nat.lt_of_lt_of_le (h2 b e) hh, fun i hi b e => Nat.lt_of_lt_of_le (h3 i hi b e) hh⟩
theorem OwnChH.grown {w w' : World} {lo hi b : Nat} {v : Value} {f : List Chn} (h : OwnChH w lo hi v f) (hg : w.grownBy w' (some b)) (hb : b < lo) : OwnChH w' lo hi v f := by
  obtain ⟨vs, xs, h, h2, h3⟩ := h
  exact ⟨vs, xs, h.grown hg hb, h2, h3⟩
theorem OwnChH.chg {w w' : World} {lo hi lo' hi' : Nat} {v : Value} {f : List Chn} (h : OwnChH w lo hi v f) (hc : Chg lo' hi' w w') (ho : hi ≤ lo' ∨ hi' ≤ lo) : OwnChH w' lo hi v f := by
  obtain ⟨vs, xs, h, h2, h3⟩ := h
  refine ⟨vs, xs, ⟨hc.owns h.row (fun g hg => ?_), h.at_, fun i hi hk => hc.owns (h.ents i hi hk) (fun g hg => ?_), h.apart, h.aside⟩, h2, h3⟩
  · have h4 := h2 g hg; have h5 := (h.row.lt g hg).1; omega
  · have h4 := h3 i hi g hg; have h5 := (World.ownsRow.lt (h.ents i hi hk) g hg).1; omega
theorem InVr.rowOf {w : World} {g : Nat} {f : List Chn} (h : ReadCh w g f) : InCh w (some ⟨g, 0, none⟩) f :=
  .inr ⟨g, 0, rfl, h.lt, fun i hi => by rw [Nat.zero_add]; exact h.cells i hi⟩
theorem OwnChH.inCh {w : World} {lo hi g n c : Nat} {f : List Chn} (h : OwnChH w lo hi (.slice (some ⟨g, 0, none⟩) n c) f) : InCh w (some ⟨g, 0, none⟩) f := by
  rcases h.own.rowCh with h | ⟨g', e, h⟩
  · exact .inl (by rw [h]; rfl)
  · injection e with e; injection e with e; subst e; exact InVr.rowOf h
/-- Definitions, likewise. -/
def OwnDfH (w : World) (lo hi : Nat) (v : Value) (f : List Dfn) : Prop := ∃ vs xs, PartDf w lo v f.length f f.length vs xs ∧ (∀ b, v.ownBlock = some b → b < hi) ∧ ∀ i, i < f.length → ∀ b, (vs i).ownBlock = some b → b < hi
theorem OwnDf.ownH {w : World} {lo : Nat} {v : Value} {f : List Dfn} (h : OwnDf w lo v f) : OwnDfH w lo w.heap.size v f := by
  obtain ⟨vs, xs, h⟩ := h
  exact ⟨vs, xs, h, fun b hb => (h.row.lt b hb).2, fun i hi b hb => (World.ownsRow.lt (h.ents i hi hi) b hb).2⟩
theorem OwnDfH.own {w : World} {lo hi : Nat} {v : Value} {f : List Dfn} (h : OwnDfH w lo hi v f) : OwnDf w lo v f := by
  obtain ⟨vs, xs, h, _⟩ := h
  exact ⟨vs, xs, h⟩
theorem OwnDfH.next {w w' : World} {lo hi : Nat} {v : Value} {f : List Dfn} (h : OwnDfH w lo hi v f) (hb : Below w.heap.size w w') : OwnDfH w' lo hi v f := by
  obtain ⟨vs, xs, h, h2, h3⟩ := h
  exact ⟨vs, xs, h.next hb, h2, h3⟩
theorem OwnDfH.mono {w : World} {lo lo' hi hi' : Nat} {v : Value} {f : List Dfn} (h : OwnDfH w lo hi v f) (hb : lo' ≤ lo) (hh : hi ≤ hi') : OwnDfH w lo' hi' v f := by
  obtain ⟨vs, xs, h, h2, h3⟩ := h
  exact ⟨vs, xs, ⟨owns_mono h.row hb, h.at_, fun i hi hk => owns_mono (h.ents i hi hk) hb, h.apart, h.aside⟩, fun b e => Nat.lt_of_lt_of_le (h2 b e) hh, fun i hi b e => Nat.lt_of_lt_of_le (h3 i hi b e) hh⟩
theorem OwnDfH.grown {w w' : World} {lo hi b : Nat} {v : Value} {f : List Dfn} (h : OwnDfH w lo hi v f) (hg : w.grownBy w' (some b)) (hb : b < lo) : OwnDfH w' lo hi v f := by
  obtain ⟨vs, xs, h, h2, h3⟩ := h
  exact ⟨vs, xs, h.grown hg hb, h2, h3⟩
theorem OwnDfH.chg {w w' : World} {lo hi lo' hi' : Nat} {v : Value} {f : List Dfn} (h : OwnDfH w lo hi v f) (hc : Chg lo' hi' w w') (ho : hi ≤ lo' ∨ hi' ≤ lo) : OwnDfH w' lo hi v f := by
  obtain ⟨vs, xs, h, h2, h3⟩ := h
  refine ⟨vs, xs, ⟨hc.owns h.row (fun g hg => ?_), h.at_, fun i hi hk => hc.owns (h.ents i hi hk) (fun g hg => ?_), h.apart, h.aside⟩, h2, h3⟩
  · have h4 := h2 g hg; have h5 := (h.row.lt g hg).1; omega
  · have h4 := h3 i hi g hg; have h5 := (World.ownsRow.lt (h.ents i hi hk) g hg).1; omega
theorem OwnDfH.rowDf {w : World} {lo hi g n c : Nat} {f : List Dfn} (h : OwnDfH w lo hi (.slice (some ⟨g, 0, none⟩) n c) f) : RowDf w (some ⟨g, 0, none⟩) f := h.own.rowDf
theorem chH_at {w : World} {lo hi : Nat} {v : Value} {f : List Chn} (h : OwnChH w lo hi v f) (o g : Nat) (x : Value) (hg : g < lo) : OwnChH (w.setCell ⟨g, o, none⟩ x) lo hi v f := h.grown grown_set hg
theorem dfH_at {w : World} {lo hi : Nat} {v : Value} {f : List Dfn} (h : OwnDfH w lo hi v f) (o g : Nat) (x : Value) (hg : g < lo) : OwnDfH (w.setCell ⟨g, o, none⟩ x) lo hi v f := h.grown grown_set hg

set_option maxRecDepth 4000 in
set_option maxHeartbeats 2000000 in
theorem toColl_any (c : Col) (p q : Option Addr) (cp cq : Nat) (w : World) (hin : InCol w p q c) (hs : SzCol c) :
    Calls Tryz.prog 68 #[.agg #[.string c.name, .slice p c.chs.length cp, .slice q c.dfs.length cq]] w fun e w' => (∃ g1 g2 mid, e = .returned (.agg #[.string c.name, .slice (some ⟨g1, 0, none⟩) c.chs.length c.chs.length, .slice (some ⟨g2, 0, none⟩) c.dfs.length c.dfs.length]) ∧ OwnChH w' w.heap.size mid (.slice (some ⟨g1, 0, none⟩) c.chs.length c.chs.length) c.chs ∧ OwnDfH w' mid w'.heap.size (.slice (some ⟨g2, 0, none⟩) c.dfs.length c.dfs.length) c.dfs ∧ w.heap.size ≤ mid ∧ mid ≤ w'.heap.size) ∧ Below w.heap.size w w' := by
  have hb0 : Below w.heap.size w (((w.alloc (.cells #[.string c.name, .slice p c.chs.length cp, .slice q c.dfs.length cq] 104)).alloc (.cells #[.string em, .slice none 0 0, .slice none 0 0] 63)).alloc (.cells #[.string c.name, .slice none 0 0, .slice none 0 0] 63)) := (((Below.refl _ _).alloc (Nat.le_refl _) _).alloc (by simp) _).alloc (by simp; omega) _
  have HC : Hid (Calls _ _ _ _ _) := toChainS_any p cp c.chs _ (hin.ch.step hb0) hs.chl (fun l hl => (hs.chs l hl).1)
  have HD : Hid (∀ W : World, InDf W q c.dfs → Calls _ _ _ W _) := fun W hW => toDefS_any q cq c.dfs W hW hs.dfl (fun l hl => (hs.dfs l hl).2.1)
  have HI : Hid (InDf _ _ _) := hin.df
  clear hin hs
  go_enter Tryz.func68, Tryz.ntmps68
  go_wp2_with fail
  refine HC.out.mono ?_
  rintro e w1 ⟨⟨g1, rfl, hR⟩, hb⟩
  obtain ⟨hc, hf⟩ := bcell hb
  have hz : w.heap.size + 2 < w1.heap.size := by have := hb.size; simp at this; omega
  have hbw : Below w.heap.size w w1 := hb0.trans (hb.mono (by simp; omega))
  have hO1 : OwnChH w1 (w.heap.size + 3) w1.heap.size _ c.chs := (OwnCh.ownH hR).mono (by simp) (Nat.le_refl _)
  have HO1 : Hid (OwnChH _ _ _ _ _) := hO1
  clear hb HC hR hb0 hO1
  have hbS : Below w.heap.size w (w1.setCell ⟨w.heap.size + 2, 1, none⟩ (.slice (some ⟨g1, 0, none⟩) c.chs.length c.chs.length)) := hbw.setCell (by show w.heap.size ≤ w.heap.size + 2; omega) _
  have HD2 : Hid (Calls _ _ _ _ _) := HD.out (w1.setCell ⟨w.heap.size + 2, 1, none⟩ (.slice (some ⟨g1, 0, none⟩) c.chs.length c.chs.length)) (HI.out.step hbS)
  clear HD
  go_wp2_with fail
  refine HD2.out.mono ?_
  rintro e w2 ⟨⟨g2, rfl, hR⟩, hb⟩
  have hsz : (w1.setCell ⟨w.heap.size + 2, 1, none⟩ (.slice (some ⟨g1, 0, none⟩) c.chs.length c.chs.length)).heap.size = w1.heap.size := by simp [World.setCell]
  have hO2 : OwnChH w2 (w.heap.size + 3) w1.heap.size _ c.chs := (chH_at HO1.out 1 (w.heap.size + 2) _ (by omega)).next hb
  have hP2 : OwnDfH w2 w1.heap.size w2.heap.size _ c.dfs := (OwnDf.ownH hR).mono (by rw [hsz]; exact Nat.le_refl _) (Nat.le_refl _)
  obtain ⟨hc2, hf2⟩ := bcell hb
  rw [hsz] at hc2 hf2
  have hz2 : w1.heap.size ≤ w2.heap.size := by have := hb.size; rw [hsz] at this; exact this
  have hbw2 : Below w.heap.size w w2 := hbS.trans (hb.mono hbS.size)
  have hcl : ∀ o, w2.cell? ⟨w.heap.size + 2, o, none⟩ = (w1.setCell ⟨w.heap.size + 2, 1, none⟩ (.slice (some ⟨g1, 0, none⟩) c.chs.length c.chs.length)).cell? ⟨w.heap.size + 2, o, none⟩ := fun o => hc2 _ o (by omega)
  have k0 : w2.cell? ⟨w.heap.size + 2, 0, none⟩ = some (.string c.name) := by rw [hcl]; simp [go_sem, *]
  have k1 : w2.cell? ⟨w.heap.size + 2, 1, none⟩ = some (.slice (some ⟨g1, 0, none⟩) c.chs.length c.chs.length) := by rw [hcl]; simp [go_sem, *]
  have k2 : ∃ v, w2.cell? ⟨w.heap.size + 2, 2, none⟩ = some v := ⟨.slice none 0 0, by rw [hcl]; simp [go_sem, *]⟩
  obtain ⟨kv, k2⟩ := k2
  have HO2 : Hid (OwnChH _ _ _ _ _) := hO2
  have HP2 : Hid (OwnDfH _ _ _ _ _) := hP2
  have m0 : ∃ v, w2.cell? ⟨w.heap.size + 1, 0, none⟩ = some v := ⟨.string em, by rw [hc2 _ _ (by omega)]; simp [go_sem, *]⟩
  have m1 : ∃ v, w2.cell? ⟨w.heap.size + 1, 1, none⟩ = some v := ⟨.slice none 0 0, by rw [hc2 _ _ (by omega)]; simp [go_sem, *]⟩
  have m2 : ∃ v, w2.cell? ⟨w.heap.size + 1, 2, none⟩ = some v := ⟨.slice none 0 0, by rw [hc2 _ _ (by omega)]; simp [go_sem, *]⟩
  obtain ⟨v0, m0⟩ := m0
  obtain ⟨v1, m1⟩ := m1
  obtain ⟨v2, m2⟩ := m2
  have n0 : ∀ o, w2.frozen? ⟨w.heap.size + 2, o, none⟩ = false := fun o => by rw [hf2 _ _ (by omega)]; simp [go_sem, *]
  have n1 : ∀ o, w2.frozen? ⟨w.heap.size + 1, o, none⟩ = false := fun o => by rw [hf2 _ _ (by omega)]; simp [go_sem, *]
  clear hb HD2 hR hO2 hP2 HO1 hc hf hc2 hf2 hcl hbS hsz hbw
  go_wp2_with fail
  refine bodyPost_ret (v := .agg #[.string c.name, .slice (some ⟨g1, 0, none⟩) c.chs.length c.chs.length, .slice (some ⟨g2, 0, none⟩) c.dfs.length c.dfs.length]) (by simp [results, Tryz.results68, go_sem, *]) rfl ⟨⟨g1, g2, w1.heap.size, rfl, ?_, ?_, by omega, ?_⟩, ?_⟩
  · exact OwnChH.mono (chH_at (chH_at (chH_at (chH_at HO2.out _ _ _ (by omega)) _ _ _ (by omega)) _ _ _ (by omega)) _ _ _ (by omega)) (by omega) (Nat.le_refl _)
  · refine OwnDfH.mono (dfH_at (dfH_at (dfH_at (dfH_at HP2.out _ _ _ (by omega)) _ _ _ (by omega)) _ _ _ (by omega)) _ _ _ (by omega)) (Nat.le_refl _) (by simp [World.setCell])
  · simp [World.setCell]; omega
  · (repeat (first | (with_reducible exact Below.refl _ _) | (with_reducible assumption) | (with_reducible apply below_drewN) | (with_reducible apply Below.drew) | ((with_reducible refine Below.setCell ?_ ?_ _); rotate_left; focus (first | (simp; done) | (simp; omega) | omega)) | ((with_reducible refine Below.alloc ?_ ?_ _); rotate_left; focus (first | (simp; done) | (simp; omega) | omega))))
set_option maxRecDepth 4000 in
set_option maxHeartbeats 1000000 in
theorem eqColl_same (n : ByteArray) (p1 p2 q1 q2 : Option Addr) (c1 c2 d1 d2 : Nat) (c : List Chn) (f : List Dfn) (w : World) (h1 : RowCh w p1 c) (h2 : RowCh w p2 c) (k1 : RowDf w q1 f) (k2 : RowDf w q2 f) (hcl : c.length ≤ 1048576) (hcs : ∀ l ∈ c, l.vs.length ≤ 1048576) (hfl : f.length ≤ 1048576) (hfs : ∀ l ∈ f, l.ps.length ≤ 1048576) :
    Calls Tryz.prog 79 #[.agg #[.string n, .slice p1 c.length c1, .slice q1 f.length d1], .agg #[.string n, .slice p2 c.length c2, .slice q2 f.length d2]] w fun e w' => e = .returned (.bool true) ∧ Below w.heap.size w w' := by
  have X0 := Two.start w (.string n) (.slice p1 c.length c1) (.slice q1 f.length d1) (.string n) (.slice p2 c.length c2) (.slice q2 f.length d2) 63
  have HC : Hid (∀ W : World, Below w.heap.size w W → Calls _ _ _ W _) := fun W hW => eqChainS_same p1 p2 c1 c2 c W (h1.next hW) (h2.next hW) hcl hcs
  have HD : Hid (∀ W : World, Below w.heap.size w W → Calls _ _ _ W _) := fun W hW => eqDefS_same q1 q2 d1 d2 f W (k1.next hW) (k2.next hW) hfl hfs
  clear h1 h2 k1 k2 hcs hfs
  go_enter Tryz.func79, Tryz.ntmps79
  go_wp2_with fail
  refine (HC.out _ X0.bel).mono ?_
  rintro e w1 ⟨rfl, hb⟩
  have X1 := X0.step hb
  have y0 := X1.c2
  have y1 := X1.d2
  clear hb HC
  go_wp2_with fail
  refine (HD.out _ X1.bel).mono ?_
  rintro e w2 ⟨rfl, hb⟩
  have hbw := (X1.step hb).bel
  clear hb HD
  go_wp2_with fail
  go_ret
  exact ⟨rfl, hbw⟩

end Go.Proofs.YtpfbepbmiillbaaGreatDoor.Co
