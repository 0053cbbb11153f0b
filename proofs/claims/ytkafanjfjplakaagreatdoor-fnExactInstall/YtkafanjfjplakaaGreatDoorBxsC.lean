/- Collections in boxes of the laws whose chains lie beside their definitions: marks, and what the laws' helpers answer. -/
import Derived.Test.YtkafanjfjplakaaGreatDoorVacX
namespace Go.Proofs.YtkafanjfjplakaaGreatDoor.Co
open Go.RowKit Tr
set_option linter.unusedVariables false

/-- Blocks outside a set stay as they were. -/
structure ChgS (S : Nat → Prop) (w w' : World) : Prop where
  os : w'.os = w.os
  tape : w'.tape = w.tape
  output : w'.output = w.output
  size : w.heap.size ≤ w'.heap.size
  block : ∀ k, k < w.heap.size → ¬ S k → w'.heap[k]? = w.heap[k]?
theorem ChgS.refl (S : Nat → Prop) (w : World) : ChgS S w w := ⟨rfl, rfl, rfl, Nat.le_refl _, fun _ _ _ => rfl⟩
theorem ChgS.trans {S : Nat → Prop} {a b c : World} (h : ChgS S a b) (k : ChgS S b c) : ChgS S a c :=
  ⟨k.os.trans h.os, k.tape.trans h.tape, k.output.trans h.output, Nat.le_trans h.size k.size, fun i hi ho => (k.block i (Nat.lt_of_lt_of_le hi h.size) ho).trans (h.block i hi ho)⟩
theorem ChgS.of_grown {S : Nat → Prop} {w w' : World} {row : Option Nat} (h : w.grownBy w' row) (hr : ∀ b, row = some b → S b) : ChgS S w w' :=
  ⟨h.os, h.tape, h.output, h.size, fun k hk ho => h.block k hk (fun e => ho (hr k e.symm))⟩
theorem ChgS.chg {S : Nat → Prop} {lo hi : Nat} {w w' : World} (h : ChgS S w w') (hs : ∀ b, S b → lo ≤ b ∧ b < hi) : Chg lo hi w w' :=
  ⟨h.os, h.tape, h.output, h.size, fun k hk ho => h.block k hk (fun hb => by have := hs k hb; omega)⟩
theorem ChgS.away {S : Nat → Prop} {w w' : World} (h : ChgS S w w') {lo hi : Nat} (hs : ∀ b, S b → b < lo ∨ hi ≤ b) {v : Value} {f : List Dfn} (ho : OwnDfH w lo hi v f) : OwnDfH w' lo hi v f := by
  obtain ⟨vs, xs, hP, hv, hvs⟩ := ho
  have key : ∀ {T : TypeId} {s : Nat} {u : Value} {m : Nat} {ys : List Value}, w.ownsRow lo T s u m ys → (∀ b, u.ownBlock = some b → b < hi) → w'.ownsRow lo T s u m ys := by
    intro T s u m ys hu hb
    obtain ⟨e1, e2⟩ := hu
    refine ⟨e1, ?_⟩
    rcases e2 with e2 | ⟨g, cap, cur, r1, r2, r3, r4⟩
    · exact .inl e2
    · refine .inr ⟨g, cap, cur, r1, r2, ?_, r4⟩
      have hg : g < hi := hb g (by rw [r1]; rfl)
      rw [h.block g (Array.getElem?_eq_some_iff.1 r3).1 (fun hS => by have := hs g hS; omega)]
      exact r3
  exact ⟨vs, xs, ⟨key hP.row hv, hP.at_, fun i hi hk => key (hP.ents i hi hk) (hvs i hi), hP.apart, hP.aside⟩, hv, hvs⟩
/-- A row of chains of one's own, its blocks in a set. -/
def OwnChS (w : World) (lo : Nat) (S : Nat → Prop) (v : Value) (f : List Chn) : Prop := ∃ vs xs, PartCh w lo v f.length f f.length vs xs ∧ (∀ b, v.ownBlock = some b → S b) ∧ ∀ i, i < f.length → ∀ b, (vs i).ownBlock = some b → S b
theorem OwnChS.own {w : World} {lo : Nat} {S : Nat → Prop} {v : Value} {f : List Chn} (h : OwnChS w lo S v f) : OwnCh w lo v f := by
  obtain ⟨vs, xs, h, _⟩ := h; exact ⟨vs, xs, h⟩
theorem OwnChS.next {w w' : World} {lo : Nat} {S : Nat → Prop} {v : Value} {f : List Chn} (h : OwnChS w lo S v f) (hb : Below w.heap.size w w') : OwnChS w' lo S v f := by
  obtain ⟨vs, xs, h, h1, h2⟩ := h; exact ⟨vs, xs, h.next hb, h1, h2⟩
theorem OwnChS.mono {w : World} {lo lo' : Nat} {S S' : Nat → Prop} {v : Value} {f : List Chn} (h : OwnChS w lo S v f) (hb : lo' ≤ lo) (hh : ∀ b, S b → S' b) : OwnChS w lo' S' v f := by
  obtain ⟨vs, xs, h, h1, h2⟩ := h
  exact ⟨vs, xs, ⟨owns_mono h.row hb, h.at_, fun i hi hk => owns_mono (h.ents i hi hk) hb, h.apart, h.aside⟩, fun b e => hh b (h1 b e), fun i hi b e => hh b (h2 i hi b e)⟩
theorem OwnChS.chg {w w' : World} {lo lo' hi' : Nat} {S : Nat → Prop} {v : Value} {f : List Chn} (h : OwnChS w lo S v f) (hc : Chg lo' hi' w w') (ho : ∀ b, S b → b < lo' ∨ hi' ≤ b) : OwnChS w' lo S v f := by
  obtain ⟨vs, xs, h, h1, h2⟩ := h
  exact ⟨vs, xs, ⟨hc.owns h.row (fun g hg => ho g (h1 g hg)), h.at_, fun i hi hk => hc.owns (h.ents i hi hk) (fun g hg => ho g (h2 i hi g hg)), h.apart, h.aside⟩, h1, h2⟩
theorem OwnChH.set {w : World} {lo hi : Nat} {v : Value} {f : List Chn} (h : OwnChH w lo hi v f) : OwnChS w lo (fun b => lo ≤ b ∧ b < hi) v f := by
  obtain ⟨vs, xs, h, h1, h2⟩ := h
  exact ⟨vs, xs, h, fun b e => ⟨(h.row.lt b e).1, h1 b e⟩, fun i hi b e => ⟨(World.ownsRow.lt (h.ents i hi hi) b e).1, h2 i hi b e⟩⟩
theorem OwnChS.row {w : World} {lo n c : Nat} {S : Nat → Prop} {p : Option Addr} {f : List Chn} (h : OwnChS w lo S (.slice p n c) f) : RowCh w p f := by
  rcases h.own.form with ⟨e, e2⟩ | ⟨g, cap, e, _, hr⟩
  · exact .inl e2
  · injection e with e1 e2 e3
    exact .inr ⟨g, e1, hr⟩

set_option maxRecDepth 4000 in
set_option maxHeartbeats 2000000 in
theorem markChainS_set (lo : Nat) (S : Nat → Prop) (v : Value) (f : List Chn) (q : Nat) (w : World) (hown : OwnChS w lo S v f) (h1 : 1 ≤ q) (h2 : q ≤ 1000) (hl : f.length ≤ 1048576) (hs : ∀ p ∈ f, p.vs.length ≤ 1048576) :
    Calls Tryz.prog 58 #[v, .int .i64 q] w fun e w' => e = .returned (.int .i64 ((endCh q f : Nat) : Int)) ∧ OwnChS w' lo S v (marksCh q f) ∧ ChgS S w w' := by
  have HH := hown
  obtain ⟨vs, xs0, hP, hv, hvs⟩ := HH
  have hrow := hP.row
  obtain ⟨hr1, hr2⟩ := hrow
  rcases hr2 with ⟨rfl, h0⟩ | ⟨g, c, cur, rfl, hg, _⟩
  · have hf : f = [] := List.length_eq_zero_iff.1 h0
    subst hf
    have HO0 : Hid (OwnChS _ _ _ _ _) := hown
    clear hown hP hv hvs hr1
    go_enter Tryz.func58, Tryz.ntmps58
    go_wp2_with fail
    refine wp_loop_rounds 1 ?_
    rw [rounds_succ]
    go_wp2_with fail
    go_ret
    exact ⟨rfl, HO0.out, ChgS.refl _ _⟩
  · have HP0 : Hid (PartCh _ _ _ _ _ _ _ _) := hP
    have HV : Hid (∀ b, (Value.slice (some ⟨g, 0, none⟩) f.length c).ownBlock = some b → S b) := hv
    have HVS : Hid (∀ i, i < f.length → ∀ b, (vs i).ownBlock = some b → S b) := hvs
    have HS : Hid _ := hs
    clear hown hP hv hvs hs hr1
    go_enter Tryz.func58, Tryz.ntmps58
    go_wp2_with fail
    go_loopw [1, 5] (fun x i wr => ∃ (k : Nat) (xs : List Value), k ≤ f.length ∧ i = .int .i64 k ∧ x = .int .i64 ((endCh q (f.take k) : Nat) : Int) ∧ PartCh wr lo (.slice (some ⟨g, 0, none⟩) f.length c) f.length (mixMCh q f k) f.length vs xs ∧ ChgS S w wr) (fun _ i _ => f.length - (intOf i).toNat)
    case atStart => exact ⟨0, xs0, Nat.zero_le _, rfl, rfl, by rw [mixMCh_zero]; exact HP0.out, ChgS.refl _ _⟩
    case round =>
      obtain ⟨k, xs, hk, rfl, rfl, hP, hC⟩ := hrel
      have HC : Hid (ChgS _ _ _) := hC
      have hz := hC.size
      have hml := mixMCh_len q f k hk
      have hen1 := endCh_ge q (f.take k)
      have hen2 := endCh_le q (f.take k) (fun p hp => HS.out p (List.mem_of_mem_take hp))
      have hen3 : (f.take k).length ≤ 1048576 := by rw [List.length_take]; omega
      have hen4 : (f.take k).length * 5242881 ≤ 1048576 * 5242881 := Nat.mul_le_mul_right _ hen3
      clear hC HP0
      by_cases hlt : k < f.length
      · have hlt2 : (k : Int) < (f.length : Int) := by omega
        have hsk := HS.out f[k] (List.getElem_mem _)
        have hglr : g < wr.heap.size := (hP.row.lt g rfl).2
        obtain ⟨z0, y0⟩ := own_there hP.row (k * 2) (by omega)
        have f0 := World.ownsRow.frozenAt hP.row (k * 2)
        have hat := (hP.at_ k (by omega) hlt).2
        have y1 := owns_cell hP.row _ _ hat
        have hen := hP.ents k (by omega) hlt
        rw [mixMCh_get q f k hlt] at hen
        have hsu := endCh_succ q f k hlt
        have hmset := mixMCh_set q f k hlt
        obtain ⟨E, hE⟩ : ∃ E, E = endCh q (f.take k) := ⟨_, rfl⟩
        rw [← hE] at hen1 hen2 hsu hmset ⊢
        have hen' : OwnVr (wr.setCell ⟨g, k * 2, none⟩ (.int .i64 E)) lo (vs k) f[k].vs := World.ownsRow.kept hen grown_set (hP.aside k (by omega) hlt)
        have HM0 := markVersionS_any lo (vs k) f[k].vs (E + 1) _ hen' (by omega) (by omega) hsk
        rw [show ((E + 1 : Nat) : Int) = (E : Int) + 1 by omega] at HM0
        have HM : Hid (Calls _ _ _ _ _) := HM0
        have HP : Hid (PartCh _ _ _ _ _ _ _ _) := hP
        have HSU : Hid _ := hsu
        have HMS : Hid _ := hmset
        have hgw : lo ≤ g := (hP.row.lt g rfl).1
        have hEb : E ≤ 6000000000000 := by omega
        clear hP hat hen hen' hsu hmset hE hen2 hen3 hen4 HM0
        go_wp2_with fail
        refine HM.out.mono ?_
        rintro e w3 ⟨rfl, hO3, hg3⟩
        have hP3 := HP.out.mark hml hlt hO3 hg3
        rw [HMS.out] at hP3
        have HP3 : Hid (PartCh _ _ _ _ _ _ _ _) := hP3
        have HC3 : Hid (ChgS _ _ _) := (HC.out.trans (ChgS.of_grown grown_set (fun b hb => by injection hb with hb; subst hb; exact HV.out _ rfl))).trans (ChgS.of_grown hg3 (fun b hb => HVS.out k hlt b hb))
        have hz3 := hg3.size
        clear hP3 hO3 hg3 HM HP HC
        go_wp2_with fail
        go_roundw
        case rel => exact ⟨k + 1, _, by omega, by go_num, by rw [HSU.out]; go_num, HP3.out, HC3.out⟩
        case measure => simp [intOf]; omega
      · obtain rfl : k = f.length := by omega
        rw [mixMCh_full q f _ rfl] at hP
        rw [List.take_length] at *
        have HP : Hid (PartCh _ _ _ _ _ _ _ _) := hP
        clear hP
        go_wp2_with fail
        go_ret
        exact ⟨rfl, ⟨vs, xs, by rw [marksCh_len]; exact HP.out, HV.out, by rw [marksCh_len]; exact HVS.out⟩, HC.out⟩

/-- The blocks of chains: ahead of the definitions', or behind them. -/
def sS (lo mid hi top : Nat) (b : Nat) : Prop := (lo ≤ b ∧ b < mid) ∨ (hi ≤ b ∧ b < top)
/-- A collection and a code: what Install answers. -/
structure AnsS (R : Col × Int) (w : World) (e : Ending) (w' : World) : Prop where
  bel : Below w.heap.size w w'
  own : ∃ p q cp cq mid hi, e = .returned (.tuple #[.agg #[.string R.1.name, .slice p R.1.chs.length cp, .slice q R.1.dfs.length cq], .int .i64 R.2]) ∧ w.heap.size ≤ mid ∧ mid ≤ hi ∧ hi ≤ w'.heap.size ∧ OwnChS w' w.heap.size (sS w.heap.size mid hi w'.heap.size) (.slice p R.1.chs.length cp) R.1.chs ∧ OwnDfH w' mid hi (.slice q R.1.dfs.length cq) R.1.dfs
/-- A collection in a box. -/
structure BxS (W : World) (b lo mid hi top : Nat) (nm : ByteArray) (p q : Option Addr) (n m cp cq : Nat) (f : List Chn) (d : List Dfn) : Prop where
  lt : b < W.heap.size
  out : b < lo ∨ top ≤ b
  lm : lo ≤ mid
  mh : mid ≤ hi
  ht : hi ≤ top
  hs : top ≤ W.heap.size
  c0 : W.cell? ⟨b, 0, none⟩ = some (.string nm)
  c1 : W.cell? ⟨b, 1, none⟩ = some (.slice p n cp)
  c2 : W.cell? ⟨b, 2, none⟩ = some (.slice q m cq)
  ch : OwnChS W lo (sS lo mid hi top) (.slice p n cp) f
  df : OwnDfH W mid hi (.slice q m cq) d
theorem BxS.next {W' : World} {W : World} {b lo mid hi top : Nat} {nm : ByteArray} {p q : Option Addr} {n m cp cq : Nat} {f : List Chn} {d : List Dfn} (h : BxS W b lo mid hi top nm p q n m cp cq f d) (hb : Below W.heap.size W W') : BxS W' b lo mid hi top nm p q n m cp cq f d :=
  ⟨Nat.lt_of_lt_of_le h.lt hb.size, h.out, h.lm, h.mh, h.ht, Nat.le_trans h.hs hb.size, (hb.cell h.lt).trans h.c0, (hb.cell h.lt).trans h.c1, (hb.cell h.lt).trans h.c2, h.ch.next hb, h.df.next hb⟩
theorem BxS.chg {W' : World} {lo' hi' : Nat} {W : World} {b lo mid hi top : Nat} {nm : ByteArray} {p q : Option Addr} {n m cp cq : Nat} {f : List Chn} {d : List Dfn} (h : BxS W b lo mid hi top nm p q n m cp cq f d) (hc : Chg lo' hi' W W') (h1 : top ≤ lo' ∨ hi' ≤ lo) (h2 : b < lo' ∨ hi' ≤ b) : BxS W' b lo mid hi top nm p q n m cp cq f d :=
  have h3 := h.lm; have h4 := h.mh; have h5 := h.ht
  ⟨Nat.lt_of_lt_of_le h.lt hc.size, h.out, h.lm, h.mh, h.ht, Nat.le_trans h.hs hc.size, (hc.cell h.lt h2).trans h.c0, (hc.cell h.lt h2).trans h.c1, (hc.cell h.lt h2).trans h.c2, h.ch.chg hc (fun b hb => by unfold sS at hb; omega), h.df.chg hc (by omega)⟩
/-- In a block that is made behind the rows, or that was made ahead of them. -/
theorem BxS.cells {W : World} {b lo mid hi top : Nat} {nm : ByteArray} {p q : Option Addr} {n m cp cq : Nat} {f : List Chn} {d : List Dfn} (h1 : OwnChS W lo (sS lo mid hi top) (.slice p n cp) f) (h2 : OwnDfH W mid hi (.slice q m cq) d) (hl : lo ≤ mid) (hm : mid ≤ hi) (hh : hi ≤ top) (hs : top ≤ W.heap.size) (ho : b < lo ∨ top ≤ b) (hb : b < W.heap.size) (e0 : W.cell? ⟨b, 0, none⟩ = some (.string nm)) (e1 : W.cell? ⟨b, 1, none⟩ = some (.slice p n cp)) (e2 : W.cell? ⟨b, 2, none⟩ = some (.slice q m cq)) : BxS W b lo mid hi top nm p q n m cp cq f d := ⟨hb, ho, hl, hm, hh, hs, e0, e1, e2, h1, h2⟩
theorem BxS.eqc {b' lo' mid' hi' top' : Nat} {p' q' : Option Addr} {n' m' cp' cq' : Nat} {W : World} {b lo mid hi top : Nat} {nm : ByteArray} {p q : Option Addr} {n m cp cq : Nat} {f : List Chn} {d : List Dfn} (h1 : BxS W b lo mid hi top nm p q n m cp cq f d) (h2 : BxS W b' lo' mid' hi' top' nm p' q' n' m' cp' cq' f d) (en : n = f.length) (em : m = d.length) (en' : n' = f.length) (em' : m' = d.length) (s : SmCol ⟨nm, f, d⟩) :
    Calls Tryz.prog 13 #[.agg #[.string nm, .slice p n cp, .slice q m cq], .agg #[.string nm, .slice p' n' cp', .slice q' m' cq']] W fun e w' => e = .returned (.bool true) ∧ Below W.heap.size W w' := by
  subst en em en' em'
  exact eqColl_same nm p p' q q' cp cp' cq cq' f d W h1.ch.row h2.ch.row h1.df.row h2.df.row s.cl s.cs s.dl s.ds
theorem BxS.held {W : World} {b lo mid hi top : Nat} {nm : ByteArray} {p q : Option Addr} {n m cp cq : Nat} {f : List Chn} {d : List Dfn} (h : BxS W b lo mid hi top nm p q n m cp cq (marksCh 1 f) (marksDf (endCh 1 f) d)) (en : n = f.length) (em : m = d.length) (s : SmCol ⟨nm, f, d⟩) :
    Calls Tryz.prog 15 #[.agg #[.string nm, .slice p n cp, .slice q m cq], .int .i64 1] W fun e w' => e = .returned (.int .i64 ((endC f d : Nat) : Int)) ∧ Below W.heap.size W w' := by
  subst en em
  exact heldColl_any nm p q cp cq f d W h.ch.row h.df.row s.cl s.cs s.dl s.ds
set_option maxRecDepth 4000 in
set_option maxHeartbeats 2000000 in
theorem markColl_set (n : ByteArray) (lo mid hi top : Nat) (v1 v2 : Value) (chs : List Chn) (dfs : List Dfn) (w : World) (h1 : OwnChS w lo (sS lo mid hi top) v1 chs) (h2 : OwnDfH w mid hi v2 dfs) (hlm : lo ≤ mid) (hmh : mid ≤ hi) (hht : hi ≤ top) (hlo : top ≤ w.heap.size) (hcl : chs.length ≤ 1048576) (hcs : ∀ p ∈ chs, p.vs.length ≤ 1048576) (hdl : dfs.length ≤ 1048576) (hds : ∀ p ∈ dfs, p.ps.length ≤ 1048576) :
    Calls Tryz.prog 14 #[.agg #[.string n, v1, v2], .int .i64 1] w fun e w' => e = .returned (.int .i64 ((endDf (endCh 1 chs) dfs : Nat) : Int)) ∧ OwnChS w' lo (sS lo mid hi top) v1 (marksCh 1 chs) ∧ OwnDfH w' mid hi v2 (marksDf (endCh 1 chs) dfs) ∧ Chg lo top w w' := by
  have X0 := Boxed.start w (.string n) v1 v2 30
  have HC : Hid (Calls _ _ _ _ _) := markChainS_set lo (sS lo mid hi top) v1 chs 1 _ (h1.next X0.bel) (by omega) (by omega) hcl hcs
  have hen := endCh_le 1 chs hcs
  have hen1 := endCh_ge 1 chs
  have hen4 : chs.length * 5242881 ≤ 1048576 * 5242881 := Nat.mul_le_mul_right _ hcl
  have H2 : Hid (OwnDfH _ _ _ _ _) := h2.next X0.bel
  have HD : Hid (∀ W : World, OwnDfH W mid hi v2 dfs → Calls _ _ _ W _) := fun W hW => markDefS_any mid hi v2 dfs (endCh 1 chs) W hW hen1 (by omega) hdl hds
  obtain ⟨E, hE⟩ : ∃ E, E = endCh 1 chs := ⟨_, rfl⟩
  rw [← hE] at HC HD hen hen1 ⊢
  have hEb : E ≤ 6000000000000 := by omega
  obtain ⟨M, hM⟩ : ∃ M, M = endDf E dfs := ⟨_, rfl⟩
  rw [← hM] at HD ⊢
  have hMb : M ≤ 17592186044416 := by
    have a1 := endDf_le E dfs hds
    have a2 : dfs.length * 2097153 ≤ 1048576 * 2097153 := Nat.mul_le_mul_right _ hdl
    omega
  have HSS : Hid (∀ b, sS lo mid hi top b → lo ≤ b ∧ b < top) := fun b hb => by unfold sS at hb; omega
  have HSD : Hid (∀ b, sS lo mid hi top b → b < mid ∨ hi ≤ b) := fun b hb => by unfold sS at hb; omega
  clear h1 h2 hcs hds hE hen hen4 hM
  go_enter Tryz.func14, Tryz.ntmps14
  go_wp2_with fail
  refine HC.out.mono ?_
  rintro e w1 ⟨rfl, hO, hc⟩
  have hsz : (w.alloc (.cells #[.string n, v1, v2] 30)).heap.size = w.heap.size + 1 := by simp
  have hcc := hc.chg HSS.out
  have cells : ∀ o, w1.cell? ⟨w.heap.size, o, none⟩ = (w.alloc (.cells #[.string n, v1, v2] 30)).cell? ⟨w.heap.size, o, none⟩ := fun o => hcc.cell (by rw [hsz]; omega) (.inr (by omega))
  have c2 := (cells 2).trans X0.c2
  have HO : Hid (OwnChS _ _ _ _ _) := hO
  have HB : Hid (Chg lo top w w1) := (Chg.of_below X0.bel).trans hcc
  have HD2 : Hid (OwnDfH _ _ _ _ _) := hc.away HSD.out H2.out
  clear hO hc HC cells X0 H2 hsz hcc
  go_wp2_with fail
  refine (HD.out _ HD2.out).mono ?_
  rintro e w2 ⟨rfl, hO2, hc2⟩
  have HO2 : Hid (OwnDfH _ _ _ _ _) := hO2
  have HO1 : Hid (OwnChS _ _ _ _ _) := HO.out.chg hc2 HSD.out
  have HB2 : Hid (Chg lo top w w2) := HB.out.trans ⟨hc2.os, hc2.tape, hc2.output, hc2.size, fun k hk ho => hc2.block k hk (by omega)⟩
  clear hO2 hc2 HD HD2 HO HB c2
  go_wp2_with fail
  go_ret
  exact ⟨rfl, HO1.out, HO2.out, HB2.out⟩
theorem BxS.mark {W : World} {b lo mid hi top : Nat} {nm : ByteArray} {p q : Option Addr} {n m cp cq : Nat} {f : List Chn} {d : List Dfn} (h : BxS W b lo mid hi top nm p q n m cp cq f d) (s : SmCol ⟨nm, f, d⟩) :
    Calls Tryz.prog 14 #[.agg #[.string nm, .slice p n cp, .slice q m cq], .int .i64 1] W fun e w' => e = .returned (.int .i64 ((endC f d : Nat) : Int)) ∧ BxS w' b lo mid hi top nm p q n m cp cq (marksCh 1 f) (marksDf (endCh 1 f) d) ∧ Chg lo top W w' := by
  refine (markColl_set nm lo mid hi top _ _ f d W h.ch h.df h.lm h.mh h.ht h.hs s.cl s.cs s.dl s.ds).mono ?_
  rintro e w' ⟨rfl, h1, h2, hc⟩
  exact ⟨rfl, ⟨Nat.lt_of_lt_of_le h.lt hc.size, h.out, h.lm, h.mh, h.ht, Nat.le_trans h.hs hc.size, (hc.cell h.lt h.out).trans h.c0, (hc.cell h.lt h.out).trans h.c1, (hc.cell h.lt h.out).trans h.c2, h1, h2⟩, hc⟩

end Go.Proofs.YtkafanjfjplakaaGreatDoor.Co
