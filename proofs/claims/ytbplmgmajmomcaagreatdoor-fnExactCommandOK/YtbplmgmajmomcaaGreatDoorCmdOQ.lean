/- A command that comes in, opened. -/
import Derived.Test.YtbplmgmajmomcaaGreatDoorCmdLQ
import Derived.Test.YtbplmgmajmomcaaGreatDoorOpenTQ
import Derived.Deep.RegionHeld3
namespace Go.Proofs.YtbplmgmajmomcaaGreatDoor.Cm
open Go.RowKit Go.ChangeShapes Go.WideShapes Go.ChangeAt Go.Joins Go.Deep
open Tr Qr
set_option linter.unusedVariables false

instance : Inhabited Up.Trm := ⟨Up.zt⟩
theorem cellsUpd : Tryz.prog.cellsOf 179 = 5 := by kernel_rfl
theorem cellsCmd : Tryz.prog.cellsOf 50 = 15 := by kernel_rfl
theorem cellsCmV : Tryz.prog.cellsOf 38 = 3 := by kernel_rfl
theorem cellsCmQ : Tryz.prog.cellsOf 45 = 6 := by kernel_rfl
theorem cellsCmU : Tryz.prog.cellsOf 46 = 1 := by kernel_rfl
theorem cellsCmD : Tryz.prog.cellsOf 48 = 2 := by kernel_rfl
theorem cellsCmI : Tryz.prog.cellsOf 3 = 1 := by kernel_rfl
theorem cellsCmS : Tryz.prog.cellsOf 9 = 1 := by kernel_rfl
set_option maxRecDepth 100000 in
theorem open_updates {H : Type} {enc : TypeId × Value → H} {w : World} {base : Nat} {spare : Nat → Bool} {held : Bool} {fuel : Nat} {cs : List Value} {x : DataW H × List MemPlace}
    (h : DataW.trod enc Tryz.prog w base spare held fuel 46 cs = some x) :
    ∃ (a : Option Addr) (len cap : Nat) (l : List Up.Trm), cs = [.slice a len cap] ∧ l.length = len ∧ (l.length ≤ maxLen ∧ ∀ v ∈ l, Up.maxT v) ∧ Up.InT w a l := by
  rcases open_slice Tryz.underlying46 h with ⟨rfl, _⟩ | ⟨a, len, cap, m, n, D, Pl, rfl, hb, hl, hm, hmm, _, hx⟩
  · exact ⟨none, 0, 0, [], rfl, rfl, ⟨Nat.zero_le _, (fun v hv => by simp at hv)⟩, .inl rfl⟩
  · have hlm : len ≤ m := by rw [hmm]; split <;> omega
    rw [cellsUpd] at hx
    obtain ⟨f, hf⟩ := choose_lt (α := Up.Trm) (n := len) (p := fun i t => w.cell? (a.add (i * 5)) = some (.int .i64 t.op) ∧ w.cell? ((a.add (i * 5)).add 1) = some (.string t.p) ∧ w.cell? ((a.add (i * 5)).add 2) = some (.int .i64 t.c.k) ∧ w.cell? ((a.add (i * 5)).add 3) = some (.int .i64 t.c.n) ∧ w.cell? ((a.add (i * 5)).add 4) = some (.string t.c.t) ∧ Up.maxT t) (fun i hi => by
      obtain ⟨cs', h1, h2⟩ := hx i (by omega)
      obtain ⟨_, hlen, hc⟩ := World.cells?_some h1
      match cs', hlen with
      | [c0, c1, c2, c3, c4], _ =>
        obtain ⟨op, p, k, n, t, rfl, rfl, rfl, rfl, rfl, hp, ht⟩ := open_upd_cells h2
        refine ⟨⟨op, p, ⟨k, n, t⟩⟩, ?_, ?_, ?_, ?_, ?_, hp, ht⟩
        · have := hc 0 (by omega); simpa [Addr.add] using this
        · exact hc 1 (by omega)
        · exact hc 2 (by omega)
        · exact hc 3 (by omega)
        · exact hc 4 (by omega))
    refine ⟨some a, len, cap, (List.range len).map f, rfl, by simp, ⟨by simp; omega, ?_⟩, ?_⟩
    · intro v hv
      obtain ⟨i, hi, rfl⟩ := List.mem_map.mp hv
      exact (hf i (by simpa using hi)).2.2.2.2.2
    · by_cases h0 : len = 0
      · exact .inl (by simp [h0])
      · obtain ⟨b, off, spot⟩ := a
        have hc0 := (hf 0 (by omega)).1
        have hspot : spot = none := by simpa [Addr.add] using World.cell?_spot hc0
        subst hspot
        have hlt : b < w.heap.size := by
          rcases Nat.lt_or_ge b w.heap.size with h | h
          · exact h
          · simp [World.cell?, Addr.add, Array.getElem?_eq_none h] at hc0
        refine .inr ⟨b, off, rfl, hlt, fun i hi => ?_⟩
        have hi2 : i < len := by simpa using hi
        have := hf i hi2
        simp only [addF] at this
        simp only [List.getElem_map, List.getElem_range]
        exact ⟨this.1, this.2.1, this.2.2.1, this.2.2.2.1, this.2.2.2.2.1⟩

set_option maxRecDepth 100000 in
theorem open_query_cells {H : Type} {enc : TypeId × Value → H} {w : World} {base : Nat} {spare : Nat → Bool} {held : Bool} {fuel : Nat} {c0 c1 c2 c3 c4 c5 : Value} {x : DataW H × List MemPlace}
    (h : DataW.trod enc Tryz.prog w base spare held fuel 45 [c0, c1, c2, c3, c4, c5] = some x) :
    ∃ (af as_ ak : Option Addr) (cf cs ck : Nat) (q : Qry), c0 = .slice af q.f.length cf ∧ c1 = .slice as_ q.so.length cs ∧ c2 = .int .i64 q.skip ∧ c3 = .int .i64 q.lim ∧ c4 = .slice ak q.keep.length ck ∧ c5 = .string q.hint ∧ MaxQ q ∧ InQ w af as_ ak q := by
  obtain ⟨y0, y1, y2, y3, y4, y5, n, t0, t1, t2, t3, t4, t5⟩ := trod_struct6 Tryz.underlying45 h
  obtain ⟨z0, n', _, _, u0⟩ := trod_struct1 Tryz.underlying41 t0
  obtain ⟨pf, ln, cf, f, e0, hln, hf1, hf2, hf3⟩ := open_clauses u0
  obtain ⟨pq, lq, cq, so, e1, hlq, hs1, hs3⟩ := open_parts t1
  obtain ⟨sk, e2, _⟩ := DataW.trod_int Tryz.underlying3 t2
  obtain ⟨li, e3, _⟩ := DataW.trod_int Tryz.underlying3 t3
  obtain ⟨hi, e5, _, hh⟩ := DataW.trod_string Tryz.underlying9 t5
  simp [cellsQF, cellsQP, cellsQI, cellsQS, cellsQT, cellsQC] at e0 e1 e2 e3 e5 t4
  obtain ⟨pk, lk, ck, z, e4, hz, hk0, hk1, hk2⟩ : ∃ (pk : Option Addr) (lk ck : Nat) (z : List ByteArray), c4 = .slice pk lk ck ∧ z.length = lk ∧ z.length ≤ maxLen ∧ (∀ s ∈ z, s.size ≤ maxLen) ∧ InS w pk z := by
    rcases Deep.open_strs Tryz.underlying43 Tryz.underlying9 (by kernel_rfl) t4 with ⟨hcs, _⟩ | ⟨x, l, c, m, Sx, hcs, _, hl, hm, hmm, _, hcell⟩
    · simp at hcs
      exact ⟨none, 0, 0, [], hcs, rfl, by simp, by simp, .inl rfl⟩
    · simp at hcs
      obtain ⟨z, h1, h2, h3, h4⟩ := ins_of hl hm hmm hcell
      exact ⟨_, _, _, z, hcs, h1, h2, h3, h4⟩
  subst hln hlq hz
  exact ⟨pf, pq, pk, cf, cq, ck, ⟨f, so, sk, li, z, hi⟩, e0, e1, e2, e3, e4, e5, ⟨hf1, hf2, hs1.1, hs1.2, hk0, hk1, hh⟩, ⟨hf3, hs3, hk2⟩⟩
theorem trod_struct7 {H : Type} {enc : TypeId × Value → H} {P : Program} {w : World} {base : Nat} {spare : Nat → Bool} {held : Bool} {t : TypeId} {f0 f1 f2 f3 f4 f5 f6 : Field} {fuel : Nat} {cs : List Value} {x : DataW H × List MemPlace} (ht : P.underlying t = some (.struct #[f0, f1, f2, f3, f4, f5, f6])) (h : DataW.trod enc P w base spare held fuel t cs = some x) :
    ∃ y0 y1 y2 y3 y4 y5 y6 n, DataW.trod enc P w base spare held n f0.type ((cs.drop f0.offset).take (P.cellsOf f0.type)) = some y0 ∧ DataW.trod enc P w base spare held n f1.type ((cs.drop f1.offset).take (P.cellsOf f1.type)) = some y1 ∧ DataW.trod enc P w base spare held n f2.type ((cs.drop f2.offset).take (P.cellsOf f2.type)) = some y2 ∧ DataW.trod enc P w base spare held n f3.type ((cs.drop f3.offset).take (P.cellsOf f3.type)) = some y3 ∧ DataW.trod enc P w base spare held n f4.type ((cs.drop f4.offset).take (P.cellsOf f4.type)) = some y4 ∧ DataW.trod enc P w base spare held n f5.type ((cs.drop f5.offset).take (P.cellsOf f5.type)) = some y5 ∧ DataW.trod enc P w base spare held n f6.type ((cs.drop f6.offset).take (P.cellsOf f6.type)) = some y6 := by
  obtain ⟨xs, n, _, rfl, hl, hlen, hf⟩ := DataW.trod_struct ht h
  match xs, hlen with
  | [y0, y1, y2, y3, y4, y5, y6], _ => exact ⟨y0, y1, y2, y3, y4, y5, y6, n, by simpa using hf 0 f0 rfl, by simpa using hf 1 f1 rfl, by simpa using hf 2 f2 rfl, by simpa using hf 3 f3 rfl, by simpa using hf 4 f4 rfl, by simpa using hf 5 f5 rfl, by simpa using hf 6 f6 rfl⟩
set_option maxRecDepth 100000 in
set_option maxHeartbeats 1000000 in
theorem open_command {H : Type} {enc : TypeId × Value → H} {w : World} {base b0 : Nat} {spare : Nat → Bool} {held : Bool} {r : Reach} {v : Value} {d : DataW H} {ps : List MemPlace}
    (hv : Value.okWide Tryz.prog w r b0 50 v) (h : DataW.Trod enc Tryz.prog w base spare held 50 v d ps) :
    ∃ (af as_ ak au ad : Option Addr) (cf cs ck cu cd : Nat) (c : Cmd), v = .agg #[.int .i64 c.kind, .int .i64 c.sess, .string c.coll, .int .i64 c.doc.k, .int .i64 c.doc.n, .string c.doc.t, .slice af c.q.f.length cf, .slice as_ c.q.so.length cs, .int .i64 c.q.skip, .int .i64 c.q.lim, .slice ak c.q.keep.length ck, .string c.q.hint, .slice au c.us.length cu, .string c.dn, .slice ad c.dp.length cd] ∧ MaxCm c ∧ InCm w af as_ ak au ad c := by
  obtain ⟨cs, rfl, hsz⟩ := okWide_struct Tryz.underlying50 hv
  obtain ⟨fuel, hf⟩ := h
  rw [cellsCmd] at hsz
  obtain ⟨l⟩ := cs
  match l, hsz with
  | [c0, c1, c2, c3, c4, c5, c6, c7, c8, c9, c10, c11, c12, c13, c14], _ =>
    obtain ⟨y0, y1, y2, y3, y4, y5, y6, n, t0, t1, t2, t3, t4, t5, t6⟩ := trod_struct7 Tryz.underlying50 (show DataW.trod enc Tryz.prog w base spare held fuel 50 [c0, c1, c2, c3, c4, c5, c6, c7, c8, c9, c10, c11, c12, c13, c14] = some _ by simpa [Value.cells] using hf)
    obtain ⟨kd, e0, _⟩ := DataW.trod_int Tryz.underlying3 t0
    obtain ⟨ss, e1, _⟩ := DataW.trod_int Tryz.underlying3 t1
    obtain ⟨cl, e2, _, hcl⟩ := DataW.trod_string Tryz.underlying9 t2
    simp [cellsCmI, cellsCmS] at e0 e1 e2
    obtain ⟨v0, v1, v2, m3, _, _, o0, o1, o2⟩ := trod_struct3 Tryz.underlying38 t3
    obtain ⟨z3, e3, _⟩ := DataW.trod_int Tryz.underlying3 o0
    obtain ⟨z4, e4, _⟩ := DataW.trod_int Tryz.underlying3 o1
    obtain ⟨z5, e5, _, hz5⟩ := DataW.trod_string Tryz.underlying9 o2
    simp [cellsCmI, cellsCmS, cellsCmV] at e3 e4 e5
    have t4' : DataW.trod enc Tryz.prog w base spare held n 45 [c6, c7, c8, c9, c10, c11] = some y4 := by
      have := t4
      simp [cellsCmQ] at this
      exact this
    obtain ⟨af, as_, ak, cf, cs, ck, q, q0, q1, q2, q3, q4, q5, hq, hqi⟩ := open_query_cells t4'
    have t5' : DataW.trod enc Tryz.prog w base spare held n 46 [c12] = some y5 := by
      have := t5
      simp [cellsCmU] at this
      exact this
    obtain ⟨au, ln, cu, us, e12, hln, hu, hui⟩ := open_updates t5'
    have t6' : DataW.trod enc Tryz.prog w base spare held n 48 [c13, c14] = some y6 := by
      have := t6
      simp [cellsCmD] at this
      exact this
    obtain ⟨d0, d1, n', _, _, p0, p1⟩ := trod_struct2 Tryz.underlying48 t6'
    obtain ⟨dn, e13, _, hdn⟩ := DataW.trod_string Tryz.underlying9 p0
    obtain ⟨ad, ld, cd, dp, e14, hld, hd1, hd3⟩ := open_parts p1
    simp [cellsODq, cellsOS] at e13 e14
    simp at e12
    subst e0 e1 e2 e3 e4 e5 q0 q1 q2 q3 q4 q5 e12 e13 e14 hln hld
    exact ⟨af, as_, ak, au, ad, cf, cs, ck, cu, cd, ⟨kd, ss, cl, ⟨z3, z4, z5⟩, q, us, dn, dp⟩, rfl, ⟨hcl, hz5, hq, hu.1, hu.2, hdn, hd1.1, hd1.2⟩, ⟨hqi, hui, hd3⟩⟩

end Go.Proofs.YtbplmgmajmomcaaGreatDoor.Cm
