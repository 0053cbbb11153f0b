/- Committed ones that come in, opened: each one's reads and changes, at their places. -/
import Derived.Test.YtpfbepbmiillbaaGreatDoorTwcIR
import Derived.Test.YtpfbepbmiillbaaGreatDoorDnsRR
import Derived.Test.YtpfbepbmiillbaaGreatDoorStoLR
import Derived.Test.YtpfbepbmiillbaaGreatDoorDefOR
import Derived.Test.YtpfbepbmiillbaaGreatDoorDocBR
import Derived.Test.YtpfbepbmiillbaaGreatDoorStoSR
import Derived.Deep.RegionHeld3
namespace Go.Proofs.YtpfbepbmiillbaaGreatDoor.Ce
open Go.RowKit Go.Joins Go.Deep Go.ChangeShapes Go.WideShapes Go.ChangeAt Tr Co Rea
set_option linter.unusedVariables false

instance : Inhabited Dn := ⟨⟨0, 0, [], [], false, false⟩⟩
set_option maxRecDepth 100000 in
theorem open_dones {H : Type} {enc : TypeId × Value → H} {w : World} {base : Nat} {spare : Nat → Bool} {held : Bool} {fuel : Nat} {cs : List Value} {x : DataW H × List MemPlace}
    (h : DataW.trod enc Tryz.prog w base spare held fuel 24 cs = some x) :
    ∃ (a : Option Addr) (len cap : Nat) (f : List Dn), cs = [.slice a len cap] ∧ f.length = len ∧ f.length ≤ maxLen ∧ (∀ l ∈ f, maxDn l) ∧ InDn w a f := by
  rcases open_slice Tryz.underlying24 h with ⟨rfl, _⟩ | ⟨a, len, cap, m, n, D, Pl, rfl, hb, hl, hm, hmm, _, hx⟩
  · exact ⟨none, 0, 0, [], rfl, rfl, Nat.zero_le _, (fun v hv => by simp at hv), .inl rfl⟩
  · have hlm : len ≤ m := by rw [hmm]; split <;> omega
    rw [cellsDn] at hx
    obtain ⟨f, hf⟩ := choose_lt (α := Dn) (n := len) (p := fun i l => ∃ p cp q cq, (w.cell? (a.add (i * 6)) = some (.int .i64 l.sn) ∧ w.cell? ((a.add (i * 6)).add 1) = some (.int .i64 l.at_) ∧ w.cell? ((a.add (i * 6)).add 2) = some (.slice p l.rs.length cp) ∧ w.cell? ((a.add (i * 6)).add 3) = some (.slice q l.cs.length cq) ∧ w.cell? ((a.add (i * 6)).add 4) = some (.bool l.di) ∧ w.cell? ((a.add (i * 6)).add 5) = some (.bool l.do_)) ∧ maxDn l ∧ InRd w p l.rs ∧ InCg w q l.cs) (fun i hi => by
      obtain ⟨cs', h1, h2⟩ := hx i (by omega)
      obtain ⟨_, hlen, hc⟩ := World.cells?_some h1
      match cs', hlen with
      | [c0, c1, c2, c3, c4, c5], _ =>
        obtain ⟨y0, y1, y2, y3, y4, y5, n', t0, t1, t2, t3, t4, t5⟩ := trod_struct6d Tryz.underlying113 h2
        obtain ⟨sn, e0, _⟩ := DataW.trod_int Tryz.underlying3 t0
        obtain ⟨at_, e1, _⟩ := DataW.trod_int Tryz.underlying3 t1
        obtain ⟨p1, l1, k1, rs, e2, hl1, hr0, hr1, hr2⟩ := open_reads t2
        obtain ⟨p2, l2, k2, gs, e3, hl2, hs1, hs2⟩ := open_changes t3
        obtain ⟨di, e4, _⟩ := DataW.trod_bool Tryz.underlying4 t4
        obtain ⟨do_, e5, _⟩ := DataW.trod_bool Tryz.underlying4 t5
        simp [cellsI1, cellsB1, cellsRw, cellsCw] at e0 e1 e2 e3 e4 e5
        subst e0 e1 e2 e3 e4 e5 hl1 hl2
        refine ⟨⟨sn, at_, rs, gs, di, do_⟩, p1, k1, p2, k2, ⟨?_, ?_, ?_, ?_, ?_, ?_⟩, ⟨hr0, hr1, hs1.1, hs1.2⟩, hr2, hs2⟩
        · have := hc 0 (by omega); simpa [Addr.add] using this
        · exact hc 1 (by omega)
        · exact hc 2 (by omega)
        · exact hc 3 (by omega)
        · exact hc 4 (by omega)
        · exact hc 5 (by omega))
    refine ⟨some a, len, cap, (List.range len).map f, rfl, by simp, by simp; omega, ?_, ?_⟩
    · intro v hv
      obtain ⟨i, hi, rfl⟩ := List.mem_map.mp hv
      obtain ⟨_, _, _, _, _, h2, _⟩ := hf i (by simpa using hi)
      exact h2
    · by_cases h0 : len = 0
      · exact .inl (by simp [h0])
      · obtain ⟨b, off, spot⟩ := a
        obtain ⟨_, _, _, _, hc0, _⟩ := hf 0 (by omega)
        have hspot : spot = none := by simpa [Addr.add] using World.cell?_spot hc0.1
        subst hspot
        have hlt : b < w.heap.size := by
          rcases Nat.lt_or_ge b w.heap.size with h | h
          · exact h
          · have := hc0.1; simp [World.cell?, Addr.add, Array.getElem?_eq_none h] at this
        refine .inr ⟨b, off, rfl, hlt, fun i hi => ?_⟩
        have hi2 : i < len := by simpa using hi
        obtain ⟨p, cp, q, cq, ⟨x0, x1, x2, x3, x4, x5⟩, _, h2, h3⟩ := hf i hi2
        simp only [addO] at x0 x1 x2 x3 x4 x5
        simp only [List.getElem_map, List.getElem_range]
        exact ⟨p, cp, q, cq, ⟨x0, x1, x2, x3, x4, x5⟩, h2, h3⟩
end Go.Proofs.YtpfbepbmiillbaaGreatDoor.Ce

/- Stores that come in, opened: their collections, transactions and committed ones, at their places. -/
namespace Go.Proofs.YtpfbepbmiillbaaGreatDoor.Tx
open Go.RowKit Go.Joins Go.Deep Go.ChangeShapes Go.WideShapes Go.ChangeAt Tr Co Rea Ce
set_option linter.unusedVariables false

theorem cellsTx : Tryz.prog.cellsOf 109 = 4 := by kernel_rfl
theorem cellsWw : Tryz.prog.cellsOf 107 = 1 := by kernel_rfl
theorem cellsSt : Tryz.prog.cellsOf 26 = 4 := by kernel_rfl
theorem cellsKw : Tryz.prog.cellsOf 22 = 1 := by kernel_rfl
theorem cellsTw : Tryz.prog.cellsOf 23 = 1 := by kernel_rfl
theorem cellsEw : Tryz.prog.cellsOf 24 = 1 := by kernel_rfl
set_option maxRecDepth 100000 in
theorem open_writes {H : Type} {enc : TypeId × Value → H} {w : World} {base : Nat} {spare : Nat → Bool} {held : Bool} {fuel : Nat} {cs : List Value} {x : DataW H × List MemPlace}
    (h : DataW.trod enc Tryz.prog w base spare held fuel 107 cs = some x) :
    ∃ (a : Option Addr) (len cap : Nat) (l : List Wrt), cs = [.slice a len cap] ∧ l.length = len ∧ (l.length ≤ maxLen ∧ ∀ v ∈ l, maxWs v) ∧ InWs w a l := by
  rcases open_slice Tryz.underlying107 h with ⟨rfl, _⟩ | ⟨a, len, cap, m, n, D, Pl, rfl, hb, hl, hm, hmm, _, hx⟩
  · exact ⟨none, 0, 0, [], rfl, rfl, ⟨Nat.zero_le _, (fun v hv => by simp at hv)⟩, .inl rfl⟩
  · have hlm : len ≤ m := by rw [hmm]; split <;> omega
    rw [cellsWr] at hx
    have : Inhabited Wrt := ⟨⟨em, 0, false, ⟨0, 0, em⟩⟩⟩
    obtain ⟨f, hf⟩ := choose_lt (α := Wrt) (n := len) (p := fun i t => w.cell? (a.add (i * 6)) = some (.string t.coll) ∧ w.cell? ((a.add (i * 6)).add 1) = some (.int .i64 t.id) ∧ w.cell? ((a.add (i * 6)).add 2) = some (.bool t.gone) ∧ w.cell? ((a.add (i * 6)).add 3) = some (.int .i64 t.doc.k) ∧ w.cell? ((a.add (i * 6)).add 4) = some (.int .i64 t.doc.n) ∧ w.cell? ((a.add (i * 6)).add 5) = some (.string t.doc.t) ∧ MaxW t) (fun i hi => by
      obtain ⟨cs', h1, h2⟩ := hx i (by omega)
      obtain ⟨_, hlen, hc⟩ := World.cells?_some h1
      match cs', hlen with
      | [c0, c1, c2, c3, c4, c5], _ =>
        obtain ⟨y0, y1, y2, y3, n, t0, t1, t2, t3⟩ := trod_struct4w Tryz.underlying199 h2
        obtain ⟨z0, e0, _, h0⟩ := DataW.trod_string Tryz.underlying9 t0
        obtain ⟨z1, e1, _, _⟩ := DataW.trod_int Tryz.underlying3 t1
        obtain ⟨z2, e2, _⟩ := DataW.trod_bool Tryz.underlying4 t2
        obtain ⟨u0, u1, u2, m2, _, _, s0, s1, s2⟩ := trod_struct3 Tryz.underlying197 t3
        obtain ⟨z3, e3, _, _⟩ := DataW.trod_int Tryz.underlying3 s0
        obtain ⟨z4, e4, _, _⟩ := DataW.trod_int Tryz.underlying3 s1
        obtain ⟨z5, e5, _, h5⟩ := DataW.trod_string Tryz.underlying9 s2
        simp [cellsI1, cellsS1, cellsVv, cellsB1] at e0 e1 e2 e3 e4 e5
        subst e0 e1 e2 e3 e4 e5
        refine ⟨⟨z0, z1, z2, ⟨z3, z4, z5⟩⟩, ?_, ?_, ?_, ?_, ?_, ?_, ⟨h0, h5⟩⟩
        · have := hc 0 (by omega); simpa [Addr.add] using this
        · exact hc 1 (by omega)
        · exact hc 2 (by omega)
        · exact hc 3 (by omega)
        · exact hc 4 (by omega)
        · exact hc 5 (by omega))
    refine ⟨some a, len, cap, (List.range len).map f, rfl, by simp, ⟨by simp; omega, ?_⟩, ?_⟩
    · intro v hv
      obtain ⟨i, hi, rfl⟩ := List.mem_map.mp hv
      exact (hf i (by simpa using hi)).2.2.2.2.2.2
    · by_cases h0 : len = 0
      · exact .inl (by simp [h0])
      · obtain ⟨b, off, spot⟩ := a
        have hc0 := (hf 0 (by omega)).1
        have hspot : spot = none := by simpa [Addr.add] using World.cell?_spot hc0
        subst hspot
        have hlt : b < w.heap.size := by
          rcases Nat.lt_or_ge b w.heap.size with h | h
          · exact h
          · simp [World.cell?, Addr.add, Array.getElem?_eq_none h] at hc0
        refine .inr ⟨b, off, rfl, hlt, fun i hi => ?_⟩
        have hi2 : i < len := by simpa using hi
        have := hf i hi2
        simp only [addO] at this
        simp only [List.getElem_map, List.getElem_range]
        exact ⟨this.1, this.2.1, this.2.2.1, this.2.2.2.1, this.2.2.2.2.1, this.2.2.2.2.2.1⟩

set_option maxRecDepth 100000 in
theorem open_txns {H : Type} {enc : TypeId × Value → H} {w : World} {base : Nat} {spare : Nat → Bool} {held : Bool} {fuel : Nat} {cs : List Value} {x : DataW H × List MemPlace}
    (h : DataW.trod enc Tryz.prog w base spare held fuel 23 cs = some x) :
    ∃ (a : Option Addr) (len cap : Nat) (f : List Tn), cs = [.slice a len cap] ∧ f.length = len ∧ f.length ≤ maxLen ∧ (∀ l ∈ f, maxTn l) ∧ InTn w a f := by
  rcases open_slice Tryz.underlying23 h with ⟨rfl, _⟩ | ⟨a, len, cap, m, n, D, Pl, rfl, hb, hl, hm, hmm, _, hx⟩
  · exact ⟨none, 0, 0, [], rfl, rfl, Nat.zero_le _, (fun v hv => by simp at hv), .inl rfl⟩
  · have hlm : len ≤ m := by rw [hmm]; split <;> omega
    rw [cellsTx] at hx
    have : Inhabited Tn := ⟨⟨0, 0, [], []⟩⟩
    obtain ⟨f, hf⟩ := choose_lt (α := Tn) (n := len) (p := fun i l => ∃ p cp q cq, (w.cell? (a.add (i * 4)) = some (.int .i64 l.sn) ∧ w.cell? ((a.add (i * 4)).add 1) = some (.int .i64 l.sp) ∧ w.cell? ((a.add (i * 4)).add 2) = some (.slice p l.rs.length cp) ∧ w.cell? ((a.add (i * 4)).add 3) = some (.slice q l.cs.length cq)) ∧ maxTn l ∧ InRd w p l.rs ∧ InWs w q l.cs) (fun i hi => by
      obtain ⟨cs', h1, h2⟩ := hx i (by omega)
      obtain ⟨_, hlen, hc⟩ := World.cells?_some h1
      match cs', hlen with
      | [c0, c1, c2, c3], _ =>
        obtain ⟨y0, y1, y2, y3, n', t0, t1, t2, t3⟩ := trod_struct4w Tryz.underlying109 h2
        obtain ⟨sn, e0, _⟩ := DataW.trod_int Tryz.underlying3 t0
        obtain ⟨sp, e1, _⟩ := DataW.trod_int Tryz.underlying3 t1
        obtain ⟨p1, l1, k1, rs, e2, hl1, hr0, hr1, hr2⟩ := open_reads t2
        obtain ⟨p2, l2, k2, gs, e3, hl2, hs1, hs2⟩ := open_writes t3
        simp [cellsI1, cellsRw, cellsWw] at e0 e1 e2 e3
        subst e0 e1 e2 e3 hl1 hl2
        refine ⟨⟨sn, sp, rs, gs⟩, p1, k1, p2, k2, ⟨?_, ?_, ?_, ?_⟩, ⟨hr0, hr1, hs1.1, hs1.2⟩, hr2, hs2⟩
        · have := hc 0 (by omega); simpa [Addr.add] using this
        · exact hc 1 (by omega)
        · exact hc 2 (by omega)
        · exact hc 3 (by omega))
    refine ⟨some a, len, cap, (List.range len).map f, rfl, by simp, by simp; omega, ?_, ?_⟩
    · intro v hv
      obtain ⟨i, hi, rfl⟩ := List.mem_map.mp hv
      obtain ⟨_, _, _, _, _, h2, _⟩ := hf i (by simpa using hi)
      exact h2
    · by_cases h0 : len = 0
      · exact .inl (by simp [h0])
      · obtain ⟨b, off, spot⟩ := a
        obtain ⟨_, _, _, _, ⟨hc0, _⟩, _⟩ := hf 0 (by omega)
        have hspot : spot = none := by simpa [Addr.add] using World.cell?_spot hc0
        subst hspot
        have hlt : b < w.heap.size := by
          rcases Nat.lt_or_ge b w.heap.size with h | h
          · exact h
          · simp [World.cell?, Addr.add, Array.getElem?_eq_none h] at hc0
        refine .inr ⟨b, off, rfl, hlt, fun i hi => ?_⟩
        have hi2 : i < len := by simpa using hi
        obtain ⟨p, cp, q, cq, ⟨x0, x1, x2, x3⟩, _, h2, h3⟩ := hf i hi2
        simp only [addO] at x0 x1 x2 x3
        simp only [List.getElem_map, List.getElem_range]
        exact ⟨p, cp, q, cq, ⟨x0, x1, x2, x3⟩, h2, h3⟩

set_option maxRecDepth 100000 in
theorem open_colls {H : Type} {enc : TypeId × Value → H} {w : World} {base : Nat} {spare : Nat → Bool} {held : Bool} {fuel : Nat} {cs : List Value} {x : DataW H × List MemPlace}
    (h : DataW.trod enc Tryz.prog w base spare held fuel 22 cs = some x) :
    ∃ (a : Option Addr) (len cap : Nat) (f : List Col), cs = [.slice a len cap] ∧ f.length = len ∧ f.length ≤ maxLen ∧ (∀ l ∈ f, maxCs l) ∧ InCs w a f := by
  rcases open_slice Tryz.underlying22 h with ⟨rfl, _⟩ | ⟨a, len, cap, m, n, D, Pl, rfl, hb, hl, hm, hmm, _, hx⟩
  · exact ⟨none, 0, 0, [], rfl, rfl, Nat.zero_le _, (fun v hv => by simp at hv), .inl rfl⟩
  · have hlm : len ≤ m := by rw [hmm]; split <;> omega
    rw [cellsCo] at hx
    have : Inhabited Col := ⟨⟨em, [], []⟩⟩
    obtain ⟨f, hf⟩ := choose_lt (α := Col) (n := len) (p := fun i l => ∃ p cp q cq, (w.cell? (a.add (i * 3)) = some (.string l.name) ∧ w.cell? ((a.add (i * 3)).add 1) = some (.slice p l.chs.length cp) ∧ w.cell? ((a.add (i * 3)).add 2) = some (.slice q l.dfs.length cq)) ∧ maxCs l ∧ InCh w p l.chs ∧ InDf w q l.dfs) (fun i hi => by
      obtain ⟨cs', h1, h2⟩ := hx i (by omega)
      obtain ⟨_, hlen, hc⟩ := World.cells?_some h1
      match cs', hlen with
      | [c0, c1, c2], _ =>
        obtain ⟨y0, y1, y2, n', _, _, t0, t1, t2⟩ := trod_struct3 Tryz.underlying104 h2
        obtain ⟨z0, e0, _, hz0⟩ := DataW.trod_string Tryz.underlying9 t0
        obtain ⟨p1, l1, k1, fc, e1, hln, h1', h2', h3'⟩ := open_chains t1
        obtain ⟨p2, l2, k2, g, e2, hln2, m1, m2, m3⟩ := open_defs t2
        simp [cellsS1, cellsCs, cellsDs] at e0 e1 e2
        subst e0 e1 e2 hln hln2
        refine ⟨⟨z0, fc, g⟩, p1, k1, p2, k2, ⟨?_, ?_, ?_⟩, ⟨hz0, h1', h2', m1, m2⟩, h3', m3⟩
        · have := hc 0 (by omega); simpa [Addr.add] using this
        · exact hc 1 (by omega)
        · exact hc 2 (by omega))
    refine ⟨some a, len, cap, (List.range len).map f, rfl, by simp, by simp; omega, ?_, ?_⟩
    · intro v hv
      obtain ⟨i, hi, rfl⟩ := List.mem_map.mp hv
      obtain ⟨_, _, _, _, _, h2, _⟩ := hf i (by simpa using hi)
      exact h2
    · by_cases h0 : len = 0
      · exact .inl (by simp [h0])
      · obtain ⟨b, off, spot⟩ := a
        obtain ⟨_, _, _, _, ⟨hc0, _⟩, _⟩ := hf 0 (by omega)
        have hspot : spot = none := by simpa [Addr.add] using World.cell?_spot hc0
        subst hspot
        have hlt : b < w.heap.size := by
          rcases Nat.lt_or_ge b w.heap.size with h | h
          · exact h
          · simp [World.cell?, Addr.add, Array.getElem?_eq_none h] at hc0
        refine .inr ⟨b, off, rfl, hlt, fun i hi => ?_⟩
        have hi2 : i < len := by simpa using hi
        obtain ⟨p, cp, q, cq, ⟨x0, x1, x2⟩, _, h2, h3⟩ := hf i hi2
        simp only [addO] at x0 x1 x2
        simp only [List.getElem_map, List.getElem_range]
        exact ⟨p, cp, q, cq, ⟨x0, x1, x2⟩, h2, h3⟩

set_option maxRecDepth 100000 in
theorem open_store {H : Type} {enc : TypeId × Value → H} {w : World} {base b0 : Nat} {spare : Nat → Bool} {held : Bool} {r : Reach} {v : Value} {d : DataW H} {ps : List MemPlace}
    (hv : Value.okWide Tryz.prog w r b0 26 v) (h : DataW.Trod enc Tryz.prog w base spare held 26 v d ps) :
    ∃ (s : Sto) (p q t : Option Addr) (cp cq ct : Nat), v = .agg #[.slice p s.cs.length cp, .slice q s.ts.length cq, .slice t s.ds.length ct, .int .i64 s.clk] ∧ MaxSto s ∧ InSto w p q t s := by
  obtain ⟨cs, rfl, hsz⟩ := okWide_struct Tryz.underlying26 hv
  obtain ⟨fuel, hf⟩ := h
  rw [cellsSt] at hsz
  obtain ⟨l⟩ := cs
  match l, hsz with
  | [c0, c1, c2, c3], _ =>
    obtain ⟨y0, y1, y2, y3, n', t0, t1, t2, t3⟩ := trod_struct4w Tryz.underlying26 (show DataW.trod enc Tryz.prog w base spare held fuel 26 [c0, c1, c2, c3] = some _ by simpa [Value.cells] using hf)
    obtain ⟨p, l1, cp, f, e0, hl1, h1, h2, h3⟩ := open_colls t0
    obtain ⟨q, l2, cq, g, e1, hl2, k1, k2, k3⟩ := open_txns t1
    obtain ⟨t, l3, ct, k, e2, hl3, m1, m2, m3⟩ := open_dones t2
    obtain ⟨z, e3, _⟩ := DataW.trod_int Tryz.underlying3 t3
    simp [cellsI1, cellsKw, cellsTw, cellsEw] at e0 e1 e2 e3
    subst e0 e1 e2 e3 hl1 hl2 hl3
    exact ⟨⟨f, g, k, z⟩, p, q, t, cp, cq, ct, rfl, ⟨h1, h2, k1, k2, m1, m2⟩, ⟨h3, k3, m3⟩⟩

end Go.Proofs.YtpfbepbmiillbaaGreatDoor.Tx

/- The law's own walk of StoreOK. -/
namespace Go.Proofs.YtpfbepbmiillbaaGreatDoor.Tx
open Go.RowKit Tr Co Rea Ce
set_option linter.unusedVariables false

theorem specStoB_any (bs gc gt gd cc ct cd : Nat) (s : Sto) (w : World) (hm : MadeSto w bs gc gt gd s) (hz : SzSto s) :
    Calls Tryz.prog 9 #[.agg #[.slice (some ⟨gc, 0, none⟩) s.cs.length cc, .slice (some ⟨gt, 0, none⟩) s.ts.length ct, .slice (some ⟨gd, 0, none⟩) s.ds.length cd, .int .i64 s.clk]] w fun e w' => e = .returned (.bool (stoB s)) ∧ Below w.heap.size w w' := by
  rw [← speB_stoB]; exact specStore_any bs gc gt gd cc ct cd s w hm hz
theorem keepSt {w W w0 : World} {a0 a1 a2 a3 b0 b1 b2 b3 : Value} {bx : Nat} (X : BxTn w W a0 a1 a2 a3) (m : bx < W.heap.size) (x0 : W.cell? ⟨bx, 0, none⟩ = some b0) (x1 : W.cell? ⟨bx, 1, none⟩ = some b1) (x2 : W.cell? ⟨bx, 2, none⟩ = some b2) (x3 : W.cell? ⟨bx, 3, none⟩ = some b3) (hb : Below W.heap.size W w0) :
    w0.cell? ⟨w.heap.size, 0, none⟩ = some a0 ∧ w0.cell? ⟨w.heap.size, 1, none⟩ = some a1 ∧ w0.cell? ⟨w.heap.size, 2, none⟩ = some a2 ∧ w0.cell? ⟨w.heap.size, 3, none⟩ = some a3 ∧ w0.cell? ⟨bx, 0, none⟩ = some b0 ∧ w0.cell? ⟨bx, 1, none⟩ = some b1 ∧ w0.cell? ⟨bx, 2, none⟩ = some b2 ∧ w0.cell? ⟨bx, 3, none⟩ = some b3 :=
  have Y := X.step hb
  ⟨Y.c0, Y.c1, Y.c2, Y.c3, (hb.cell m).trans x0, (hb.cell m).trans x1, (hb.cell m).trans x2, (hb.cell m).trans x3⟩
end Go.Proofs.YtpfbepbmiillbaaGreatDoor.Tx
namespace Go.Proofs.YtpfbepbmiillbaaGreatDoor.StoreOKf
open Go.RowKit Tr Co Rea Ce Tx
set_option linter.unusedVariables false

end Go.Proofs.YtpfbepbmiillbaaGreatDoor.StoreOKf
