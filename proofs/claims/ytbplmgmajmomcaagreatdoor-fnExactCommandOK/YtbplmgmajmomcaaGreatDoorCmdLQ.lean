/- The laws' own helpers on commands: what they answer. -/
import Derived.Test.YtbplmgmajmomcaaGreatDoorCmdIQ
import Derived.Test.YtbplmgmajmomcaaGreatDoorQryLQ
namespace Go.Proofs.YtbplmgmajmomcaaGreatDoor.Cm
open Go.RowKit
open Tr Qr
set_option linter.unusedVariables false

set_option maxRecDepth 4000 in
set_option maxHeartbeats 2000000 in
theorem szQuery_at (af as_ ak : Option Addr) (cf cs ck : Nat) (q : Qry) (c0 : Int) (w : World) (h0 : 0 ≤ c0) (h1 : c0 ≤ 1048576) (hin : InQ w af as_ ak q) (hm : MaxQ q) :
    Calls Tryz.prog 50 #[.agg #[.slice af q.f.length cf, .slice as_ q.so.length cs, .int .i64 q.skip, .int .i64 q.lim, .slice ak q.keep.length ck, .string q.hint], .int .i64 c0] w fun e w' => (∃ r : Int, e = .returned (.int .i64 r) ∧ (r < 0 ∨ (0 ≤ r ∧ r ≤ c0 ∧ SzQ q))) ∧ Below w.heap.size w w' := by
  have X0 := Bx6.start w (.slice af q.f.length cf) (.slice as_ q.so.length cs) (.int .i64 q.skip) (.int .i64 q.lim) (.slice ak q.keep.length ck) (.string q.hint) 45
  have HIN : Hid (InQ w af as_ ak q) := hin
  have HM : Hid (MaxQ q) := hm
  have hhm : q.hint.size ≤ maxLen := hm.h0
  unfold maxLen at hhm
  clear hin hm
  go_enter Tryz.func50, Tryz.ntmps50
  go_wp2_with fail
  refine (szFilter_any af cf q.f c0 _ (HIN.out.step X0.bel).f HM.out.f0 HM.out.f1 (by omega) (by omega)).mono ?_
  rintro e w1 ⟨⟨r1, rfl, hr1⟩, hb⟩
  have X1 := X0.step hb
  have c1 := X1.c1
  have B1 := X1.bel
  clear hb X0
  rcases hr1 with hneg | ⟨p0, p1, p2, p3⟩
  · go_wp2_with fail
    go_ret
    exact ⟨⟨-1, rfl, .inl (by omega)⟩, B1⟩
  have hn1 : ¬ r1 < 0 := by omega
  have HP : Hid (∀ l ∈ q.f, szC l) := p3
  clear p3
  go_wp2_with fail
  refine (szPartS_any as_ cs q.so r1 _ (HIN.out.step X1.bel).s HM.out.s0 HM.out.s1 p0 (by omega)).mono ?_
  rintro e w2 ⟨⟨r2, rfl, hr2⟩, hb⟩
  have X2 := X1.step hb
  have c4 := X2.c4
  have c5 := X2.c5
  have B2 := X2.bel
  clear hb X1 c1 B1
  rcases hr2 with hneg | ⟨s0, s1, s2, s3⟩
  · go_wp2_with fail
    go_ret
    exact ⟨⟨-1, rfl, .inl (by omega)⟩, B2⟩
  have hn2 : ¬ r2 < 0 := by omega
  have HS : Hid (∀ v ∈ q.so, szPt v) := s3
  clear s3
  go_wp2_with fail
  refine (szStringS_at ak ck q.keep r2 _ (HIN.out.step X2.bel).k HM.out.k0 HM.out.k1 s0 (by omega)).mono ?_
  rintro e w3 ⟨⟨r3, rfl, hr3⟩, hb⟩
  have X3 := X2.step hb
  have c5 := X3.c5
  have B3 := X3.bel
  clear hb X2 c4 B2
  rcases hr3 with hneg | ⟨k0, k1, k2, k3⟩
  · go_wp2_with fail
    go_ret
    exact ⟨⟨-1, rfl, .inl (by omega)⟩, B3⟩
  have hn3 : ¬ r3 < 0 := by omega
  have HK : Hid (∀ v ∈ q.keep, v.size ≤ 1048576) := k3
  clear k3
  by_cases hh : r3 < (q.hint.size : Int)
  · have hneg : r3 - (q.hint.size : Int) < 0 := by omega
    go_wp2_with fail
    go_ret
    exact ⟨⟨-1, rfl, .inl (by omega)⟩, B3⟩
  · have hneg : ¬ r3 - (q.hint.size : Int) < 0 := by omega
    go_wp2_with fail
    go_ret
    exact ⟨⟨r3 - (q.hint.size : Int), rfl, .inr ⟨by omega, by omega, ⟨p2, HP.out, s2, HS.out, k2, HK.out, by omega⟩⟩⟩, B3⟩


set_option maxRecDepth 4000 in
set_option maxHeartbeats 1000000 in
theorem szDef_at (n : ByteArray) (a : Option Addr) (cap : Nat) (l : List Prt) (c0 : Int) (w : World) (h0 : 0 ≤ c0) (h1 : c0 ≤ 1048576) (hin : InD w a l) (hn : n.size ≤ maxLen) (hl : l.length ≤ maxLen) (hs : ∀ v ∈ l, maxPt v) :
    Calls Tryz.prog 52 #[.agg #[.string n, .slice a l.length cap], .int .i64 c0] w fun e w' => (∃ r : Int, e = .returned (.int .i64 r) ∧ (r < 0 ∨ (0 ≤ r ∧ r ≤ c0 ∧ n.size ≤ 1048576 ∧ l.length ≤ 1048576 ∧ ∀ v ∈ l, szPt v))) ∧ Below w.heap.size w w' := by
  unfold maxLen at hn
  have X0 := BoxD.start w n (.slice a l.length cap) 48
  have hbw0 := X0.bel
  by_cases hbig : c0 < (n.size : Int)
  · have hneg : c0 - (n.size : Int) < 0 := by omega
    clear hin hs
    go_enter Tryz.func52, Tryz.ntmps52
    go_wp2_with fail
    go_ret
    exact ⟨⟨-1, rfl, .inl (by omega)⟩, hbw0⟩
  · have hneg : ¬ (c0 - (n.size : Int) < 0) := by omega
    have HC : Hid (∀ W : World, Below w.heap.size w W → Calls _ _ _ W _) := fun W hW => szPartS_any a cap l (c0 - (n.size : Int)) W (hin.step hW) hl hs (by omega) (by omega)
    clear hin hs
    go_enter Tryz.func52, Tryz.ntmps52
    go_wp2_with fail
    refine (HC.out _ X0.bel).mono ?_
    rintro e w1 ⟨⟨r, rfl, hr⟩, hb⟩
    have hbw := (X0.step hb).bel
    clear hb HC
    rcases hr with hneg2 | ⟨hr0, hr1, hr2, hr3⟩
    · go_wp2_with fail
      go_ret
      exact ⟨⟨-1, rfl, .inl (by omega)⟩, hbw⟩
    · have hnn : ¬ r < 0 := by omega
      have HS : Hid (∀ v ∈ l, szPt v) := hr3
      clear hr3
      go_wp2_with fail
      go_ret
      exact ⟨⟨r, rfl, .inr ⟨hr0, by omega, by omega, hr2, HS.out⟩⟩, hbw⟩

set_option maxRecDepth 8000 in
set_option maxHeartbeats 4000000 in
theorem toQuery_made (af as_ ak : Option Addr) (cf cs ck : Nat) (q : Qry) (w : World) (hin : InQ w af as_ ak q) (hz : SzQ q) :
    Calls Tryz.prog 60 #[.agg #[.slice af q.f.length cf, .slice as_ q.so.length cs, .int .i64 q.skip, .int .i64 q.lim, .slice ak q.keep.length ck, .string q.hint]] w fun e w' => (∃ gf gs gk, e = .returned (.agg #[.slice (some ⟨gf, 0, none⟩) q.f.length q.f.length, .slice (some ⟨gs, 0, none⟩) q.so.length q.so.length, .int .i64 q.skip, .int .i64 q.lim, .slice (some ⟨gk, 0, none⟩) q.keep.length q.keep.length, .string q.hint]) ∧ MadeC w' w.heap.size gf q.f ∧ OwnD w' w.heap.size (.slice (some ⟨gs, 0, none⟩) q.so.length q.so.length) q.so ∧ w.heap.size ≤ gk ∧ ReadS w' gk 0 q.keep) ∧ Below w.heap.size w w' := by
  have M0 := MkQ.start w (.slice af q.f.length cf) (.slice as_ q.so.length cs) (.int .i64 q.skip) (.int .i64 q.lim) (.slice ak q.keep.length ck) (.string q.hint) 45 59
  have HIN : Hid (InQ w af as_ ak q) := hin
  have HZ : Hid (SzQ q) := hz
  clear hin hz
  go_enter Tryz.func60, Tryz.ntmps60
  go_wp2_with fail
  refine (toFilter_made af cf q.f _ (HIN.out.step M0.bel).f HZ.out.f0 (fun l hl => (HZ.out.f1 l hl).1)).mono ?_
  rintro e w1 ⟨⟨gf, rfl, hM1⟩, hb⟩
  have M1 := M0.next hb
  have hbase1 : w.heap.size + 3 ≤ (((w.alloc (.cells #[.slice af q.f.length cf, .slice as_ q.so.length cs, .int .i64 q.skip, .int .i64 q.lim, .slice ak q.keep.length ck, .string q.hint] 45)).alloc (.cells #[.slice none 0 0, .slice none 0 0, .int .i64 0, .int .i64 0, .slice none 0 0, .string em] 59)).alloc (.cells #[.slice none 0 0, .slice none 0 0, .int .i64 0, .int .i64 0, .slice none 0 0, .string em] 59)).heap.size := by simp
  have HF1 : Hid (MadeC _ _ _ _) := madeC_mono hM1 hbase1
  obtain ⟨p0, p1, p2, p3, p4, p5⟩ := six M1.pb
  obtain ⟨o0, o1, o2, o3, o4, o5⟩ := six M1.ob
  have z0 := soft M1.ob 0
  have z1 := soft M1.ob 1
  have z2 := soft M1.ob 2
  have z3 := soft M1.ob 3
  have z4 := soft M1.ob 4
  have z5 := soft M1.ob 5
  have hlt := M1.lt
  have hlp : w.heap.size < w1.heap.size := by omega
  have M1' := M1.set 0 (.slice (some ⟨gf, 0, none⟩) q.f.length q.f.length)
  have HF1' : Hid (MadeC _ _ _ _) := HF1.out.set (b := w.heap.size + 2) (o := 0) (v := .slice (some ⟨gf, 0, none⟩) q.f.length q.f.length) (by omega)
  clear hb M0 hM1 hbase1 M1 HF1
  go_wp2_with fail
  refine (toPartS_any as_ cs q.so _ (HIN.out.step M1'.bel).s HZ.out.s0).mono ?_
  rintro e w2 ⟨⟨gs, rfl, hO2⟩, hb⟩
  have M2 := M1'.next hb
  have HF2 : Hid (MadeC _ _ _ _) := madeC_next HF1'.out hb
  have hO2' := owns_mono hO2 (base' := w.heap.size + 3) (by have := M1'.lt; omega)
  clear hb hO2 HF1' M1' p0 p1 p2 p3 p4 p5 o0 o1 o2 o3 o4 o5 z0 z1 z2 z3 z4 z5 hlt hlp
  obtain ⟨p0, p1, p2, p3, p4, p5⟩ := six M2.pb
  obtain ⟨o0, o1, o2, o3, o4, o5⟩ := six (show w2.heap[w.heap.size + 2]? = some (.cells #[.slice (some ⟨gf, 0, none⟩) q.f.length q.f.length, .slice none 0 0, .int .i64 0, .int .i64 0, .slice none 0 0, .string em] _) from M2.ob)
  have z0 := soft M2.ob 0
  have z1 := soft M2.ob 1
  have z2 := soft M2.ob 2
  have z3 := soft M2.ob 3
  have z4 := soft M2.ob 4
  have z5 := soft M2.ob 5
  have hlt := M2.lt
  have hlp : w.heap.size < w2.heap.size := by omega
  have M2' := ((M2.set 1 (.slice (some ⟨gs, 0, none⟩) q.so.length q.so.length)).set 2 (.int .i64 q.skip)).set 3 (.int .i64 q.lim)
  have HF2' : Hid (MadeC _ _ _ _) := ((HF2.out.set (b := w.heap.size + 2) (o := 1) (v := .slice (some ⟨gs, 0, none⟩) q.so.length q.so.length) (by omega)).set (b := w.heap.size + 2) (o := 2) (v := .int .i64 q.skip) (by omega)).set (b := w.heap.size + 2) (o := 3) (v := .int .i64 q.lim) (by omega)
  have HO2' : Hid (OwnD _ _ _ _) := ownD_set (b := w.heap.size + 2) (o := 3) (v := .int .i64 q.lim) (ownD_set (b := w.heap.size + 2) (o := 2) (v := .int .i64 q.skip) (ownD_set (b := w.heap.size + 2) (o := 1) (v := .slice (some ⟨gs, 0, none⟩) q.so.length q.so.length) hO2' (by omega)) (by omega)) (by omega)
  clear M2 HF2 hO2'
  go_wp2_with fail
  refine (toStringS_any ak ck q.keep _ (HIN.out.step M2'.bel).k HZ.out.k0).mono ?_
  rintro e w3 ⟨⟨gk, rfl, hg3, hR3⟩, hb⟩
  have M3 := M2'.next hb
  have HF3 : Hid (MadeC _ _ _ _) := madeC_next HF2'.out hb
  have HO3 : Hid (OwnD _ _ _ _) := owns_below HO2'.out hb
  have HK3 : Hid (ReadS _ _ _ _) := hR3
  have hgk : w.heap.size + 3 ≤ gk := by have := M2'.lt; omega
  clear hb hR3 hg3 HF2' HO2' M2' p0 p1 p2 p3 p4 p5 o0 o1 o2 o3 o4 o5 z0 z1 z2 z3 z4 z5 hlt hlp
  obtain ⟨p0, p1, p2, p3, p4, p5⟩ := six M3.pb
  obtain ⟨o0, o1, o2, o3, o4, o5⟩ := six (show w3.heap[w.heap.size + 2]? = some (.cells #[.slice (some ⟨gf, 0, none⟩) q.f.length q.f.length, .slice (some ⟨gs, 0, none⟩) q.so.length q.so.length, .int .i64 q.skip, .int .i64 q.lim, .slice none 0 0, .string em] _) from M3.ob)
  obtain ⟨r0, r1, r2, r3, r4, r5⟩ := six M3.rb
  have y0 := soft M3.rb 0
  have y1 := soft M3.rb 1
  have y2 := soft M3.rb 2
  have y3 := soft M3.rb 3
  have y4 := soft M3.rb 4
  have y5 := soft M3.rb 5
  have z4 := soft M3.ob 4
  have z5 := soft M3.ob 5
  have hlt := M3.lt
  have hlp : w.heap.size < w3.heap.size := by omega
  have hbw := M3.bel
  clear M3
  go_wp2_with fail
  refine bodyPost_ret (v := .agg #[.slice (some ⟨gf, 0, none⟩) q.f.length q.f.length, .slice (some ⟨gs, 0, none⟩) q.so.length q.so.length, .int .i64 q.skip, .int .i64 q.lim, .slice (some ⟨gk, 0, none⟩) q.keep.length q.keep.length, .string q.hint]) (by simp [results, Tryz.results60, go_sem, *]) rfl ⟨⟨gf, gs, gk, rfl, ?_⟩, ?_⟩
  · refine ⟨madeC_mono (base := w.heap.size + 3) ?_ (by omega), owns_mono (base := w.heap.size + 3) ?_ (by omega), by omega, ?_⟩
    · repeat (first | (with_reducible exact HF3.out) | (with_reducible refine MadeC.set ?_ (by omega)))
    · show OwnD _ _ _ _
      repeat (first | (with_reducible exact HO3.out) | (with_reducible refine ownD_set ?_ (by omega)))
    · repeat (first | (with_reducible exact HK3.out) | (with_reducible refine readS_set ?_ (by omega)))
  · (repeat (first | (with_reducible exact Below.refl _ _) | (with_reducible assumption) | (with_reducible apply below_drewN) | (with_reducible apply Below.drew) | ((with_reducible refine Below.setCell ?_ ?_ _); rotate_left; focus (first | (simp; done) | (simp; omega) | omega)) | ((with_reducible refine Below.alloc ?_ ?_ _); rotate_left; focus (first | (simp; done) | (simp; omega) | omega))))


/-- Where the rows of a command that comes in lie. -/
structure InCm (W : World) (af as_ ak au ad : Option Addr) (c : Cmd) : Prop where
  q : InQ W af as_ ak c.q
  u : Up.InT W au c.us
  d : InD W ad c.dp
theorem InCm.step {W W' : World} {af as_ ak au ad : Option Addr} {c : Cmd} (h : InCm W af as_ ak au ad c) (hb : Below W.heap.size W W') : InCm W' af as_ ak au ad c := ⟨h.q.step hb, h.u.step hb, h.d.step hb⟩
structure MaxCm (c : Cmd) : Prop where
  n : c.coll.size ≤ maxLen
  t : c.doc.t.size ≤ maxLen
  q : MaxQ c.q
  u0 : c.us.length ≤ maxLen
  u1 : ∀ v ∈ c.us, Up.maxT v
  d0 : c.dn.size ≤ maxLen
  d1 : c.dp.length ≤ maxLen
  d2 : ∀ v ∈ c.dp, maxPt v
set_option maxRecDepth 4000 in
set_option maxHeartbeats 2000000 in
theorem szCommand_any (af as_ ak au ad : Option Addr) (cf cs ck cu cd : Nat) (c : Cmd) (w : World) (hin : InCm w af as_ ak au ad c) (hm : MaxCm c) :
    Calls Tryz.prog 13 #[.agg #[.int .i64 c.kind, .int .i64 c.sess, .string c.coll, .int .i64 c.doc.k, .int .i64 c.doc.n, .string c.doc.t, .slice af c.q.f.length cf, .slice as_ c.q.so.length cs, .int .i64 c.q.skip, .int .i64 c.q.lim, .slice ak c.q.keep.length ck, .string c.q.hint, .slice au c.us.length cu, .string c.dn, .slice ad c.dp.length cd], .int .i64 1048576] w fun e w' => (∃ r : Int, e = .returned (.int .i64 r) ∧ (r < 0 ∨ (0 ≤ r ∧ SzCm c))) ∧ Below w.heap.size w w' := by
  have X0 := Bx15.start w #[.int .i64 c.kind, .int .i64 c.sess, .string c.coll, .int .i64 c.doc.k, .int .i64 c.doc.n, .string c.doc.t, .slice af c.q.f.length cf, .slice as_ c.q.so.length cs, .int .i64 c.q.skip, .int .i64 c.q.lim, .slice ak c.q.keep.length ck, .string c.q.hint, .slice au c.us.length cu, .string c.dn, .slice ad c.dp.length cd] 50
  obtain ⟨x0, x1, x2, x3, x4, x5, x6, x7, x8, x9, x10, x11, x12, x13, x14⟩ := fif X0.cb
  have xl := X0.lt
  have xb := X0.bel
  have hn := hm.n
  have ht := hm.t
  unfold maxLen at hn ht
  by_cases h1 : (1048576 : Int) < (c.coll.size : Int)
  · have hneg : (1048576 : Int) - (c.coll.size : Int) < 0 := by omega
    go_enter Tryz.func13, Tryz.ntmps13
    go_wp2_with fail
    go_ret
    exact ⟨⟨-1, rfl, .inl (by omega)⟩, xb⟩
  have hneg : ¬ (1048576 : Int) - (c.coll.size : Int) < 0 := by omega
  by_cases h2 : (1048576 : Int) - (c.coll.size : Int) < (c.doc.t.size : Int)
  · have HV0 := fun W : World => szValue_any c.doc.k c.doc.n c.doc.t (1048576 - (c.coll.size : Int)) W hm.t (by omega) (by omega)
    rw [if_pos h2] at HV0
    have HV : Hid (∀ W : World, Calls _ _ _ W _) := HV0
    clear HV0 hin
    go_enter Tryz.func13, Tryz.ntmps13
    go_wp2_with fail
    refine (HV.out _).mono ?_
    rintro e w1 ⟨rfl, hb⟩
    have xb1 := (X0.step hb).bel
    clear hb
    go_wp2_with fail
    go_ret
    exact ⟨⟨-1, rfl, .inl (by omega)⟩, xb1⟩
  have HV0 := fun W : World => szValue_any c.doc.k c.doc.n c.doc.t (1048576 - (c.coll.size : Int)) W hm.t (by omega) (by omega)
  rw [if_neg h2] at HV0
  have HV : Hid (∀ W : World, Calls _ _ _ W _) := HV0
  obtain ⟨L, hL⟩ : ∃ L : Int, L = 1048576 - (c.coll.size : Int) - (c.doc.t.size : Int) := ⟨_, rfl⟩
  have hL0 : 0 ≤ L := by omega
  have hL1 : L ≤ 1048576 := by omega
  have hLn : ¬ L < 0 := by omega
  rw [← hL] at HV
  have HQ : Hid (∀ W : World, Below w.heap.size w W → Calls _ _ _ W _) := fun W hW => szQuery_at af as_ ak cf cs ck c.q L W hL0 hL1 (hin.step hW).q hm.q
  have HU : Hid (∀ (L : Int) (W : World), 0 ≤ L → L ≤ 1048576 → Below w.heap.size w W → Calls _ _ _ W _) := fun L W h0 h1 hW => Up.szUpdateS_any au cu c.us L W (hin.step hW).u hm.u0 hm.u1 h0 h1
  have HD : Hid (∀ (L : Int) (W : World), 0 ≤ L → L ≤ 1048576 → Below w.heap.size w W → Calls _ _ _ W _) := fun L W h0 h1 hW => szDef_at c.dn ad cd c.dp L W h0 h1 (hin.step hW).d hm.d0 hm.d1 hm.d2
  have HN : Hid (c.coll.size ≤ 1048576 ∧ c.doc.t.size ≤ 1048576) := ⟨by omega, by omega⟩
  clear HV0 hin hm h1 h2 hL hn ht
  go_enter Tryz.func13, Tryz.ntmps13
  go_wp2_with fail
  refine (HV.out _).mono ?_
  rintro e w1 ⟨rfl, hb⟩
  have X1 := X0.step hb
  clear hb HV X0 x0 x1 x2 x3 x4 x5 x6 x7 x8 x9 x10 x11 x12 x13 x14 xl xb
  obtain ⟨x0, x1, x2, x3, x4, x5, x6, x7, x8, x9, x10, x11, x12, x13, x14⟩ := fif X1.cb
  have xl := X1.lt
  go_wp2_with fail
  refine (HQ.out _ X1.bel).mono ?_
  rintro e w2 ⟨⟨r2, rfl, hr2⟩, hb⟩
  have X2 := X1.step hb
  have xb := X2.bel
  clear hb HQ X1 x0 x1 x2 x3 x4 x5 x6 x7 x8 x9 x10 x11 x12 x13 x14 xl
  rcases hr2 with hng | ⟨p0, p1, p2⟩
  · go_wp2_with fail
    go_ret
    exact ⟨⟨-1, rfl, .inl (by omega)⟩, xb⟩
  have hn2 : ¬ r2 < 0 := by omega
  have HP2 : Hid (SzQ c.q) := p2
  clear p2
  obtain ⟨x0, x1, x2, x3, x4, x5, x6, x7, x8, x9, x10, x11, x12, x13, x14⟩ := fif X2.cb
  have xl := X2.lt
  go_wp2_with fail
  refine (HU.out r2 _ p0 (by omega) X2.bel).mono ?_
  rintro e w3 ⟨⟨r3, rfl, hr3⟩, hb⟩
  have X3 := X2.step hb
  have xb3 := X3.bel
  clear hb HU X2 x0 x1 x2 x3 x4 x5 x6 x7 x8 x9 x10 x11 x12 x13 x14 xl xb
  rcases hr3 with hng | ⟨s0, s1, s2, s3⟩
  · go_wp2_with fail
    go_ret
    exact ⟨⟨-1, rfl, .inl (by omega)⟩, xb3⟩
  have hn3 : ¬ r3 < 0 := by omega
  have HP3 : Hid (c.us.length ≤ 1048576 ∧ ∀ v ∈ c.us, Up.szT v) := ⟨s2, s3⟩
  clear s2 s3
  obtain ⟨x0, x1, x2, x3, x4, x5, x6, x7, x8, x9, x10, x11, x12, x13, x14⟩ := fif X3.cb
  have xl := X3.lt
  go_wp2_with fail
  refine (HD.out r3 _ s0 (by omega) X3.bel).mono ?_
  rintro e w4 ⟨⟨r4, rfl, hr4⟩, hb⟩
  have X4 := X3.step hb
  have xb4 := X4.bel
  clear hb HD X3 x0 x1 x2 x3 x4 x5 x6 x7 x8 x9 x10 x11 x12 x13 x14 xl xb3
  rcases hr4 with hng | ⟨u0, u1, u2, u3, u4⟩
  · go_wp2_with fail
    go_ret
    exact ⟨⟨-1, rfl, .inl (by omega)⟩, xb4⟩
  have hn4 : ¬ r4 < 0 := by omega
  have HP4 : Hid (∀ v ∈ c.dp, szPt v) := u4
  clear u4
  go_wp2_with fail
  go_ret
  exact ⟨⟨r4, rfl, .inr ⟨u0, ⟨HN.out.1, HN.out.2, HP2.out, HP3.out.1, HP3.out.2, u2, u3, HP4.out⟩⟩⟩, xb4⟩

/-- The three blocks of toCommand: what came in, the answer, what is made. -/
structure MkC (w W : World) (as_ os : Array Value) (T U : TypeId) : Prop where
  bel : Below w.heap.size w W
  lt : w.heap.size + 2 < W.heap.size
  pb : W.heap[w.heap.size]? = some (.cells as_ T (0, 0))
  rb : W.heap[w.heap.size + 1]? = some (.cells #[.int .i64 0, .int .i64 0, .string em, .int .i64 0, .int .i64 0, .string em, .slice none 0 0, .slice none 0 0, .int .i64 0, .int .i64 0, .slice none 0 0, .string em, .slice none 0 0, .string em, .slice none 0 0] U (0, 0))
  ob : W.heap[w.heap.size + 2]? = some (.cells os U (0, 0))
theorem MkC.next {w W W' : World} {as_ os : Array Value} {T U : TypeId} (h : MkC w W as_ os T U) (hb : Below W.heap.size W W') : MkC w W' as_ os T U := by
  have := h.lt
  exact ⟨h.bel.trans (hb.mono h.bel.size), Nat.lt_of_lt_of_le h.lt hb.size, (hb.block _ (by omega)).trans h.pb, (hb.block _ (by omega)).trans h.rb, (hb.block _ h.lt).trans h.ob⟩
theorem MkC.set {w W : World} {as_ os : Array Value} {T U : TypeId} (h : MkC w W as_ os T U) (o : Nat) (v : Value) : MkC w (W.setCell ⟨w.heap.size + 2, o, none⟩ v) as_ (os.setIfInBounds o v) T U := by
  have := h.lt
  have hg : W.grownBy (W.setCell ⟨w.heap.size + 2, o, none⟩ v) (some (w.heap.size + 2)) := Tr.grown_set
  refine ⟨h.bel.setCell (by show w.heap.size ≤ w.heap.size + 2; omega) _, by simpa using h.lt, (hg.block _ (by omega) (fun e => by injection e; omega)).trans h.pb, (hg.block _ (by omega) (fun e => by injection e; omega)).trans h.rb, ?_⟩
  simp [World.setCell, Array.getElem?_modify, h.ob]
theorem MkC.start (w : World) (vs os : Array Value) (T U : TypeId) : MkC w (((w.alloc (.cells vs T)).alloc (.cells #[.int .i64 0, .int .i64 0, .string em, .int .i64 0, .int .i64 0, .string em, .slice none 0 0, .slice none 0 0, .int .i64 0, .int .i64 0, .slice none 0 0, .string em, .slice none 0 0, .string em, .slice none 0 0] U)).alloc (.cells os U)) vs os T U := by
  obtain ⟨W1, h1⟩ : ∃ W, W = w.alloc (.cells vs T) := ⟨_, rfl⟩
  obtain ⟨O, hO⟩ : ∃ O, O = Obj.cells #[.int .i64 0, .int .i64 0, .string em, .int .i64 0, .int .i64 0, .string em, .slice none 0 0, .slice none 0 0, .int .i64 0, .int .i64 0, .slice none 0 0, .string em, .slice none 0 0, .string em, .slice none 0 0] U := ⟨_, rfl⟩
  obtain ⟨Q, hQ⟩ : ∃ Q, Q = Obj.cells os U := ⟨_, rfl⟩
  have s1 : W1.heap.size = w.heap.size + 1 := by rw [h1]; simp
  have s2 : (W1.alloc O).heap.size = w.heap.size + 2 := by simp [s1]
  have b2 : Below W1.heap.size W1 (W1.alloc O) := (Below.refl _ _).alloc (Nat.le_refl _) _
  have b3 : Below (W1.alloc O).heap.size (W1.alloc O) ((W1.alloc O).alloc Q) := (Below.refl _ _).alloc (Nat.le_refl _) _
  have n1 : W1.heap[w.heap.size]? = some (.cells vs T) := by rw [h1]; exact heap_alloc_new w _
  have n2 : (W1.alloc O).heap[w.heap.size + 1]? = some O := by rw [← s1]; exact heap_alloc_new W1 _
  have n3 : ((W1.alloc O).alloc Q).heap[w.heap.size + 2]? = some Q := by rw [← s2]; exact heap_alloc_new _ _
  have bw : Below w.heap.size w W1 := by rw [h1]; exact (Below.refl _ _).alloc (Nat.le_refl _) _
  rw [← h1, ← hO, ← hQ]
  refine ⟨(bw.trans (b2.mono (by omega))).trans (b3.mono (by omega)), by simp [s1], ?_, ?_, ?_⟩
  · exact (b3.block _ (by omega)).trans ((b2.block _ (by omega)).trans n1)
  · rw [← hO]; exact (b3.block _ (by omega)).trans n2
  · rw [← hQ]; exact n3
theorem soft15 {W : World} {b : Nat} {T : TypeId} {vs : Array Value} (h : W.heap[b]? = some (.cells vs T (0, 0))) (o : Nat) : W.frozen? ⟨b, o, none⟩ = false := by simp [World.frozen?, h]
/-- A command that was made, its rows at or above a block. -/
structure MadeCm (W : World) (base gf gs gk gu gd : Nat) (c : Cmd) : Prop where
  f : MadeC W base gf c.q.f
  s : OwnD W base (.slice (some ⟨gs, 0, none⟩) c.q.so.length c.q.so.length) c.q.so
  kg : base ≤ gk
  k : ReadS W gk 0 c.q.keep
  ug : base ≤ gu
  u : Up.ReadT W gu c.us
  d : OwnD W base (.slice (some ⟨gd, 0, none⟩) c.dp.length c.dp.length) c.dp
theorem MadeCm.next {W W' : World} {base gf gs gk gu gd : Nat} {c : Cmd} (h : MadeCm W base gf gs gk gu gd c) (hb : Below W.heap.size W W') : MadeCm W' base gf gs gk gu gd c :=
  ⟨madeC_next h.f hb, owns_below h.s hb, h.kg, h.k.next hb, h.ug, h.u.next hb, owns_below h.d hb⟩
theorem MadeCm.rd {W : World} {base gf gs gk gu gd : Nat} {c : Cmd} (h : MadeCm W base gf gs gk gu gd c) : RdCm W (some ⟨gf, 0, none⟩) (some ⟨gs, 0, none⟩) gk (some ⟨gu, 0, none⟩) (some ⟨gd, 0, none⟩) c :=
  ⟨⟨.inr ⟨gf, rfl, h.f.read⟩, OwnD.rowD h.s rfl, h.k⟩, .inr ⟨gu, rfl, h.u⟩, OwnD.rowD h.d rfl⟩
theorem ownD_in {W : World} {base g n cap : Nat} {l : List Prt} (h : OwnD W base (.slice (some ⟨g, 0, none⟩) n cap) l) : InD W (some ⟨g, 0, none⟩) l := by
  obtain ⟨p, cp, e, hi⟩ := h.inD
  injection e with e1 e2 e3
  subst e1
  exact hi
theorem readU_set {W : World} {g b o : Nat} {v : Value} {l : List Up.Trm} (h : Up.ReadT W g l) (hne : g ≠ b) : Up.ReadT (W.setCell ⟨b, o, none⟩ v) g l := h.grown (row := some b) Tr.grown_set (fun e => hne (Option.some.inj e))

set_option maxRecDepth 8000 in
set_option maxHeartbeats 8000000 in
theorem toCommand_any (af as_ ak au ad : Option Addr) (cf cs ck cu cd : Nat) (c : Cmd) (w : World) (hin : InCm w af as_ ak au ad c) (hz : SzCm c) :
    Calls Tryz.prog 15 #[.agg #[.int .i64 c.kind, .int .i64 c.sess, .string c.coll, .int .i64 c.doc.k, .int .i64 c.doc.n, .string c.doc.t, .slice af c.q.f.length cf, .slice as_ c.q.so.length cs, .int .i64 c.q.skip, .int .i64 c.q.lim, .slice ak c.q.keep.length ck, .string c.q.hint, .slice au c.us.length cu, .string c.dn, .slice ad c.dp.length cd]] w fun e w' => (∃ gf gs gk gu gd, e = .returned (.agg #[.int .i64 c.kind, .int .i64 c.sess, .string c.coll, .int .i64 c.doc.k, .int .i64 c.doc.n, .string c.doc.t, .slice (some ⟨gf, 0, none⟩) c.q.f.length c.q.f.length, .slice (some ⟨gs, 0, none⟩) c.q.so.length c.q.so.length, .int .i64 c.q.skip, .int .i64 c.q.lim, .slice (some ⟨gk, 0, none⟩) c.q.keep.length c.q.keep.length, .string c.q.hint, .slice (some ⟨gu, 0, none⟩) c.us.length c.us.length, .string c.dn, .slice (some ⟨gd, 0, none⟩) c.dp.length c.dp.length]) ∧ MadeCm w' w.heap.size gf gs gk gu gd c) ∧ Below w.heap.size w w' := by
  have HIN : Hid (InCm w af as_ ak au ad c) := hin
  have HZ : Hid (SzCm c) := hz
  have N0 := MkC.start w #[.int .i64 c.kind, .int .i64 c.sess, .string c.coll, .int .i64 c.doc.k, .int .i64 c.doc.n, .string c.doc.t, .slice af c.q.f.length cf, .slice as_ c.q.so.length cs, .int .i64 c.q.skip, .int .i64 c.q.lim, .slice ak c.q.keep.length ck, .string c.q.hint, .slice au c.us.length cu, .string c.dn, .slice ad c.dp.length cd] #[.int .i64 c.kind, .int .i64 c.sess, .string c.coll, .int .i64 0, .int .i64 0, .string em, .slice none 0 0, .slice none 0 0, .int .i64 0, .int .i64 0, .slice none 0 0, .string em, .slice none 0 0, .string em, .slice none 0 0] 50 64
  have HV : Hid (∀ W : World, Calls _ _ _ W _) := fun W => toValue_any c.doc.k c.doc.n c.doc.t W
  clear hin hz
  go_enter Tryz.func15, Tryz.ntmps15
  go_wp2_with fail
  refine (HV.out _).mono ?_
  rintro e w1 ⟨rfl, hb⟩
  have M1 := N0.next hb
  clear hb N0 HV
  obtain ⟨p0, p1, p2, p3, p4, p5, p6, p7, p8, p9, p10, p11, p12, p13, p14⟩ := fif M1.pb
  obtain ⟨o0, o1, o2, o3, o4, o5, o6, o7, o8, o9, o10, o11, o12, o13, o14⟩ := fif M1.ob
  have zs := soft15 M1.ob
  have z3 := zs 3
  have z4 := zs 4
  have z5 := zs 5
  have hlt := M1.lt
  have hlp : w.heap.size < w1.heap.size := by omega
  have N1 : MkC w _ #[.int .i64 c.kind, .int .i64 c.sess, .string c.coll, .int .i64 c.doc.k, .int .i64 c.doc.n, .string c.doc.t, .slice af c.q.f.length cf, .slice as_ c.q.so.length cs, .int .i64 c.q.skip, .int .i64 c.q.lim, .slice ak c.q.keep.length ck, .string c.q.hint, .slice au c.us.length cu, .string c.dn, .slice ad c.dp.length cd] #[.int .i64 c.kind, .int .i64 c.sess, .string c.coll, .int .i64 c.doc.k, .int .i64 c.doc.n, .string c.doc.t, .slice none 0 0, .slice none 0 0, .int .i64 0, .int .i64 0, .slice none 0 0, .string em, .slice none 0 0, .string em, .slice none 0 0] 50 64 := (MkC.set (MkC.set (MkC.set M1 3 (.int .i64 c.doc.k)) 4 (.int .i64 c.doc.n)) 5 (.string c.doc.t))
  have HB1 := N1.bel
  have HL1 := N1.lt
  have HQ : Hid (Calls _ _ _ _ _) := toQuery_made af as_ ak cf cs ck c.q _ (HIN.out.step HB1).q HZ.out.q
  clear zs M1 HB1
  go_wp2_with fail
  refine HQ.out.mono ?_
  rintro e w2 ⟨⟨gf, gs, gk, rfl, F2, S2, kg2, K2⟩, hb⟩
  have M2 := N1.next hb
  have kg : w.heap.size + 3 ≤ gk := by omega
  have HXf : Hid (MadeC w2 (w.heap.size + 3) gf c.q.f) := madeC_mono F2 (by omega)
  have HXs : Hid (OwnD w2 (w.heap.size + 3) (.slice (some ⟨gs, 0, none⟩) c.q.so.length c.q.so.length) c.q.so) := owns_mono S2 (by omega)
  have HXk : Hid (ReadS w2 gk 0 c.q.keep) := K2
  clear hb N1 HQ F2 S2 K2 kg2 HL1 p0 p1 p2 p3 p4 p5 p6 p7 p8 p9 p10 p11 p12 p13 p14 o0 o1 o2 o3 o4 o5 o6 o7 o8 o9 o10 o11 o12 o13 o14 hlt hlp z3 z4 z5
  obtain ⟨p0, p1, p2, p3, p4, p5, p6, p7, p8, p9, p10, p11, p12, p13, p14⟩ := fif M2.pb
  obtain ⟨o0, o1, o2, o3, o4, o5, o6, o7, o8, o9, o10, o11, o12, o13, o14⟩ := fif M2.ob
  have zs := soft15 M2.ob
  have z6 := zs 6
  have z7 := zs 7
  have z8 := zs 8
  have z9 := zs 9
  have z10 := zs 10
  have z11 := zs 11
  have hlt := M2.lt
  have hlp : w.heap.size < w2.heap.size := by omega
  have N2 : MkC w _ #[.int .i64 c.kind, .int .i64 c.sess, .string c.coll, .int .i64 c.doc.k, .int .i64 c.doc.n, .string c.doc.t, .slice af c.q.f.length cf, .slice as_ c.q.so.length cs, .int .i64 c.q.skip, .int .i64 c.q.lim, .slice ak c.q.keep.length ck, .string c.q.hint, .slice au c.us.length cu, .string c.dn, .slice ad c.dp.length cd] #[.int .i64 c.kind, .int .i64 c.sess, .string c.coll, .int .i64 c.doc.k, .int .i64 c.doc.n, .string c.doc.t, .slice (some ⟨gf, 0, none⟩) c.q.f.length c.q.f.length, .slice (some ⟨gs, 0, none⟩) c.q.so.length c.q.so.length, .int .i64 c.q.skip, .int .i64 c.q.lim, .slice (some ⟨gk, 0, none⟩) c.q.keep.length c.q.keep.length, .string c.q.hint, .slice none 0 0, .string em, .slice none 0 0] 50 64 := (MkC.set (MkC.set (MkC.set (MkC.set (MkC.set (MkC.set M2 6 (.slice (some ⟨gf, 0, none⟩) c.q.f.length c.q.f.length)) 7 (.slice (some ⟨gs, 0, none⟩) c.q.so.length c.q.so.length)) 8 (.int .i64 c.q.skip)) 9 (.int .i64 c.q.lim)) 10 (.slice (some ⟨gk, 0, none⟩) c.q.keep.length c.q.keep.length)) 11 (.string c.q.hint))
  have HXf' : Hid (MadeC _ (w.heap.size + 3) gf c.q.f) := (MadeC.set (b := w.heap.size + 2) (o := 11) (v := .string c.q.hint) (MadeC.set (b := w.heap.size + 2) (o := 10) (v := .slice (some ⟨gk, 0, none⟩) c.q.keep.length c.q.keep.length) (MadeC.set (b := w.heap.size + 2) (o := 9) (v := .int .i64 c.q.lim) (MadeC.set (b := w.heap.size + 2) (o := 8) (v := .int .i64 c.q.skip) (MadeC.set (b := w.heap.size + 2) (o := 7) (v := .slice (some ⟨gs, 0, none⟩) c.q.so.length c.q.so.length) (MadeC.set (b := w.heap.size + 2) (o := 6) (v := .slice (some ⟨gf, 0, none⟩) c.q.f.length c.q.f.length) HXf.out (by omega)) (by omega)) (by omega)) (by omega)) (by omega)) (by omega))
  have HXs' : Hid (OwnD _ (w.heap.size + 3) (.slice (some ⟨gs, 0, none⟩) c.q.so.length c.q.so.length) c.q.so) := (ownD_set (b := w.heap.size + 2) (o := 11) (v := .string c.q.hint) (ownD_set (b := w.heap.size + 2) (o := 10) (v := .slice (some ⟨gk, 0, none⟩) c.q.keep.length c.q.keep.length) (ownD_set (b := w.heap.size + 2) (o := 9) (v := .int .i64 c.q.lim) (ownD_set (b := w.heap.size + 2) (o := 8) (v := .int .i64 c.q.skip) (ownD_set (b := w.heap.size + 2) (o := 7) (v := .slice (some ⟨gs, 0, none⟩) c.q.so.length c.q.so.length) (ownD_set (b := w.heap.size + 2) (o := 6) (v := .slice (some ⟨gf, 0, none⟩) c.q.f.length c.q.f.length) HXs.out (by omega)) (by omega)) (by omega)) (by omega)) (by omega)) (by omega))
  have HXk' : Hid (ReadS _ gk 0 c.q.keep) := (readS_set (b := w.heap.size + 2) (o := 11) (v := .string c.q.hint) (readS_set (b := w.heap.size + 2) (o := 10) (v := .slice (some ⟨gk, 0, none⟩) c.q.keep.length c.q.keep.length) (readS_set (b := w.heap.size + 2) (o := 9) (v := .int .i64 c.q.lim) (readS_set (b := w.heap.size + 2) (o := 8) (v := .int .i64 c.q.skip) (readS_set (b := w.heap.size + 2) (o := 7) (v := .slice (some ⟨gs, 0, none⟩) c.q.so.length c.q.so.length) (readS_set (b := w.heap.size + 2) (o := 6) (v := .slice (some ⟨gf, 0, none⟩) c.q.f.length c.q.f.length) HXk.out (by omega)) (by omega)) (by omega)) (by omega)) (by omega)) (by omega))
  have HB2 := N2.bel
  have HL2 := N2.lt
  have HU : Hid (Calls _ _ _ _ _) := Up.toUpdateS_any au cu c.us _ (HIN.out.step HB2).u HZ.out.u0
  clear zs M2 HB2 HXf HXs HXk
  go_wp2_with fail
  refine HU.out.mono ?_
  rintro e w3 ⟨⟨gu, rfl, ug3, U3⟩, hb⟩
  have M3 := N2.next hb
  have ug : w.heap.size + 3 ≤ gu := by omega
  have HXf : Hid (MadeC w3 (w.heap.size + 3) gf c.q.f) := madeC_next HXf'.out hb
  have HXs : Hid (OwnD w3 (w.heap.size + 3) (.slice (some ⟨gs, 0, none⟩) c.q.so.length c.q.so.length) c.q.so) := owns_below HXs'.out hb
  have HXk : Hid (ReadS w3 gk 0 c.q.keep) := ReadS.next HXk'.out hb
  have HXu : Hid (Up.ReadT w3 gu c.us) := U3
  clear hb N2 HU U3 ug3 HL2 HXf' HXs' HXk' p0 p1 p2 p3 p4 p5 p6 p7 p8 p9 p10 p11 p12 p13 p14 o0 o1 o2 o3 o4 o5 o6 o7 o8 o9 o10 o11 o12 o13 o14 hlt hlp z6 z7 z8 z9 z10 z11
  obtain ⟨p0, p1, p2, p3, p4, p5, p6, p7, p8, p9, p10, p11, p12, p13, p14⟩ := fif M3.pb
  obtain ⟨o0, o1, o2, o3, o4, o5, o6, o7, o8, o9, o10, o11, o12, o13, o14⟩ := fif M3.ob
  have zs := soft15 M3.ob
  have z12 := zs 12
  have hlt := M3.lt
  have hlp : w.heap.size < w3.heap.size := by omega
  have N3 : MkC w _ #[.int .i64 c.kind, .int .i64 c.sess, .string c.coll, .int .i64 c.doc.k, .int .i64 c.doc.n, .string c.doc.t, .slice af c.q.f.length cf, .slice as_ c.q.so.length cs, .int .i64 c.q.skip, .int .i64 c.q.lim, .slice ak c.q.keep.length ck, .string c.q.hint, .slice au c.us.length cu, .string c.dn, .slice ad c.dp.length cd] #[.int .i64 c.kind, .int .i64 c.sess, .string c.coll, .int .i64 c.doc.k, .int .i64 c.doc.n, .string c.doc.t, .slice (some ⟨gf, 0, none⟩) c.q.f.length c.q.f.length, .slice (some ⟨gs, 0, none⟩) c.q.so.length c.q.so.length, .int .i64 c.q.skip, .int .i64 c.q.lim, .slice (some ⟨gk, 0, none⟩) c.q.keep.length c.q.keep.length, .string c.q.hint, .slice (some ⟨gu, 0, none⟩) c.us.length c.us.length, .string em, .slice none 0 0] 50 64 := (MkC.set M3 12 (.slice (some ⟨gu, 0, none⟩) c.us.length c.us.length))
  have HXf' : Hid (MadeC _ (w.heap.size + 3) gf c.q.f) := (MadeC.set (b := w.heap.size + 2) (o := 12) (v := .slice (some ⟨gu, 0, none⟩) c.us.length c.us.length) HXf.out (by omega))
  have HXs' : Hid (OwnD _ (w.heap.size + 3) (.slice (some ⟨gs, 0, none⟩) c.q.so.length c.q.so.length) c.q.so) := (ownD_set (b := w.heap.size + 2) (o := 12) (v := .slice (some ⟨gu, 0, none⟩) c.us.length c.us.length) HXs.out (by omega))
  have HXk' : Hid (ReadS _ gk 0 c.q.keep) := (readS_set (b := w.heap.size + 2) (o := 12) (v := .slice (some ⟨gu, 0, none⟩) c.us.length c.us.length) HXk.out (by omega))
  have HXu' : Hid (Up.ReadT _ gu c.us) := (readU_set (b := w.heap.size + 2) (o := 12) (v := .slice (some ⟨gu, 0, none⟩) c.us.length c.us.length) HXu.out (by omega))
  have HB3 := N3.bel
  have HL3 := N3.lt
  have HD : Hid (Calls _ _ _ _ _) := toDef_any c.dn ad cd c.dp _ (HIN.out.step HB3).d HZ.out.d1
  clear zs M3 HB3 HXf HXs HXk HXu
  go_wp2_with fail
  refine HD.out.mono ?_
  rintro e w4 ⟨⟨gd, rfl, D4⟩, hb⟩
  have M4 := N3.next hb
  have HXf : Hid (MadeC w4 (w.heap.size + 3) gf c.q.f) := madeC_next HXf'.out hb
  have HXs : Hid (OwnD w4 (w.heap.size + 3) (.slice (some ⟨gs, 0, none⟩) c.q.so.length c.q.so.length) c.q.so) := owns_below HXs'.out hb
  have HXk : Hid (ReadS w4 gk 0 c.q.keep) := ReadS.next HXk'.out hb
  have HXu : Hid (Up.ReadT w4 gu c.us) := Up.ReadT.next HXu'.out hb
  have HXd : Hid (OwnD w4 (w.heap.size + 3) (.slice (some ⟨gd, 0, none⟩) c.dp.length c.dp.length) c.dp) := owns_mono D4 (by omega)
  clear hb N3 HD D4 HL3 HXf' HXs' HXk' HXu' p0 p1 p2 p3 p4 p5 p6 p7 p8 p9 p10 p11 p12 p13 p14 o0 o1 o2 o3 o4 o5 o6 o7 o8 o9 o10 o11 o12 o13 o14 hlt hlp z12
  obtain ⟨p0, p1, p2, p3, p4, p5, p6, p7, p8, p9, p10, p11, p12, p13, p14⟩ := fif M4.pb
  obtain ⟨o0, o1, o2, o3, o4, o5, o6, o7, o8, o9, o10, o11, o12, o13, o14⟩ := fif M4.ob
  have zs := soft15 M4.ob
  have z13 := zs 13
  have z14 := zs 14
  have hlt := M4.lt
  have hlp : w.heap.size < w4.heap.size := by omega
  obtain ⟨r0, r1, r2, r3, r4, r5, r6, r7, r8, r9, r10, r11, r12, r13, r14⟩ := fif M4.rb
  have ys := soft15 M4.rb
  have y0 := ys 0
  have y1 := ys 1
  have y2 := ys 2
  have y3 := ys 3
  have y4 := ys 4
  have y5 := ys 5
  have y6 := ys 6
  have y7 := ys 7
  have y8 := ys 8
  have y9 := ys 9
  have y10 := ys 10
  have y11 := ys 11
  have y12 := ys 12
  have y13 := ys 13
  have y14 := ys 14
  have hbw := M4.bel
  clear zs ys M4
  go_wp2_with fail
  refine bodyPost_ret (v := .agg #[.int .i64 c.kind, .int .i64 c.sess, .string c.coll, .int .i64 c.doc.k, .int .i64 c.doc.n, .string c.doc.t, .slice (some ⟨gf, 0, none⟩) c.q.f.length c.q.f.length, .slice (some ⟨gs, 0, none⟩) c.q.so.length c.q.so.length, .int .i64 c.q.skip, .int .i64 c.q.lim, .slice (some ⟨gk, 0, none⟩) c.q.keep.length c.q.keep.length, .string c.q.hint, .slice (some ⟨gu, 0, none⟩) c.us.length c.us.length, .string c.dn, .slice (some ⟨gd, 0, none⟩) c.dp.length c.dp.length]) (by simp [results, Tryz.results15, go_sem, *]) rfl ⟨⟨gf, gs, gk, gu, gd, rfl, ?_⟩, ?_⟩
  · refine ⟨madeC_mono (base := w.heap.size + 3) ?_ (by omega), owns_mono (base := w.heap.size + 3) ?_ (by omega), by omega, ?_, by omega, ?_, owns_mono (base := w.heap.size + 3) ?_ (by omega)⟩
    · repeat (first | (with_reducible exact HXf.out) | (with_reducible refine MadeC.set ?_ (by omega)))
    · show OwnD _ _ _ _
      repeat (first | (with_reducible exact HXs.out) | (with_reducible refine ownD_set ?_ (by omega)))
    · repeat (first | (with_reducible exact HXk.out) | (with_reducible refine readS_set ?_ (by omega)))
    · repeat (first | (with_reducible exact HXu.out) | (with_reducible refine readU_set ?_ (by omega)))
    · show OwnD _ _ _ _
      repeat (first | (with_reducible exact HXd.out) | (with_reducible refine ownD_set ?_ (by omega)))
  · (repeat (first | (with_reducible exact Below.refl _ _) | (with_reducible assumption) | (with_reducible apply below_drewN) | (with_reducible apply Below.drew) | ((with_reducible refine Below.setCell ?_ ?_ _); rotate_left; focus (first | (simp; done) | (simp; omega) | omega)) | ((with_reducible refine Below.alloc ?_ ?_ _); rotate_left; focus (first | (simp; done) | (simp; omega) | omega))))

set_option maxRecDepth 4000 in
set_option maxHeartbeats 4000000 in
theorem eqCommand_same (gf1 gs1 gk1 gu1 gd1 b1 gf2 gs2 gk2 gu2 gd2 b2 : Nat) (c : Cmd) (w : World) (h1 : MadeCm w b1 gf1 gs1 gk1 gu1 gd1 c) (h2 : MadeCm w b2 gf2 gs2 gk2 gu2 gd2 c) (hz : SzCm c) :
    Calls Tryz.prog 17 #[.agg #[.int .i64 c.kind, .int .i64 c.sess, .string c.coll, .int .i64 c.doc.k, .int .i64 c.doc.n, .string c.doc.t, .slice (some ⟨gf1, 0, none⟩) c.q.f.length c.q.f.length, .slice (some ⟨gs1, 0, none⟩) c.q.so.length c.q.so.length, .int .i64 c.q.skip, .int .i64 c.q.lim, .slice (some ⟨gk1, 0, none⟩) c.q.keep.length c.q.keep.length, .string c.q.hint, .slice (some ⟨gu1, 0, none⟩) c.us.length c.us.length, .string c.dn, .slice (some ⟨gd1, 0, none⟩) c.dp.length c.dp.length], .agg #[.int .i64 c.kind, .int .i64 c.sess, .string c.coll, .int .i64 c.doc.k, .int .i64 c.doc.n, .string c.doc.t, .slice (some ⟨gf2, 0, none⟩) c.q.f.length c.q.f.length, .slice (some ⟨gs2, 0, none⟩) c.q.so.length c.q.so.length, .int .i64 c.q.skip, .int .i64 c.q.lim, .slice (some ⟨gk2, 0, none⟩) c.q.keep.length c.q.keep.length, .string c.q.hint, .slice (some ⟨gu2, 0, none⟩) c.us.length c.us.length, .string c.dn, .slice (some ⟨gd2, 0, none⟩) c.dp.length c.dp.length]] w fun e w' => e = .returned (.bool true) ∧ Below w.heap.size w w' := by
  have X0 := (Bx15.start w #[.int .i64 c.kind, .int .i64 c.sess, .string c.coll, .int .i64 c.doc.k, .int .i64 c.doc.n, .string c.doc.t, .slice (some ⟨gf1, 0, none⟩) c.q.f.length c.q.f.length, .slice (some ⟨gs1, 0, none⟩) c.q.so.length c.q.so.length, .int .i64 c.q.skip, .int .i64 c.q.lim, .slice (some ⟨gk1, 0, none⟩) c.q.keep.length c.q.keep.length, .string c.q.hint, .slice (some ⟨gu1, 0, none⟩) c.us.length c.us.length, .string c.dn, .slice (some ⟨gd1, 0, none⟩) c.dp.length c.dp.length] 64).step ((Below.refl _ _).alloc (Nat.le_refl _) (.cells #[.int .i64 c.kind, .int .i64 c.sess, .string c.coll, .int .i64 c.doc.k, .int .i64 c.doc.n, .string c.doc.t, .slice (some ⟨gf2, 0, none⟩) c.q.f.length c.q.f.length, .slice (some ⟨gs2, 0, none⟩) c.q.so.length c.q.so.length, .int .i64 c.q.skip, .int .i64 c.q.lim, .slice (some ⟨gk2, 0, none⟩) c.q.keep.length c.q.keep.length, .string c.q.hint, .slice (some ⟨gu2, 0, none⟩) c.us.length c.us.length, .string c.dn, .slice (some ⟨gd2, 0, none⟩) c.dp.length c.dp.length] 64))
  have Y0 := Bx15.start (w.alloc (.cells #[.int .i64 c.kind, .int .i64 c.sess, .string c.coll, .int .i64 c.doc.k, .int .i64 c.doc.n, .string c.doc.t, .slice (some ⟨gf1, 0, none⟩) c.q.f.length c.q.f.length, .slice (some ⟨gs1, 0, none⟩) c.q.so.length c.q.so.length, .int .i64 c.q.skip, .int .i64 c.q.lim, .slice (some ⟨gk1, 0, none⟩) c.q.keep.length c.q.keep.length, .string c.q.hint, .slice (some ⟨gu1, 0, none⟩) c.us.length c.us.length, .string c.dn, .slice (some ⟨gd1, 0, none⟩) c.dp.length c.dp.length] 64)) #[.int .i64 c.kind, .int .i64 c.sess, .string c.coll, .int .i64 c.doc.k, .int .i64 c.doc.n, .string c.doc.t, .slice (some ⟨gf2, 0, none⟩) c.q.f.length c.q.f.length, .slice (some ⟨gs2, 0, none⟩) c.q.so.length c.q.so.length, .int .i64 c.q.skip, .int .i64 c.q.lim, .slice (some ⟨gk2, 0, none⟩) c.q.keep.length c.q.keep.length, .string c.q.hint, .slice (some ⟨gu2, 0, none⟩) c.us.length c.us.length, .string c.dn, .slice (some ⟨gd2, 0, none⟩) c.dp.length c.dp.length] 64
  have HV : Hid (∀ W : World, Calls _ _ _ W _) := fun W => eqValue_same c.doc.k c.doc.n c.doc.t W
  have HQ : Hid (∀ W : World, Below w.heap.size w W → Calls _ _ _ W _) := fun W hW => eqQuery_same (some ⟨gf1, 0, none⟩) (some ⟨gs1, 0, none⟩) (some ⟨gf2, 0, none⟩) (some ⟨gs2, 0, none⟩) gk1 gk2 c.q.f.length c.q.so.length c.q.keep.length c.q.f.length c.q.so.length c.q.keep.length c.q W (h1.next hW).rd.q (h2.next hW).rd.q (ownD_in (h1.next hW).s) (ownD_in (h2.next hW).s) hz.q
  have HU : Hid (∀ W : World, Below w.heap.size w W → Calls _ _ _ W _) := fun W hW => Up.eqUpdateS_same (some ⟨gu1, 0, none⟩) (some ⟨gu2, 0, none⟩) c.us.length c.us.length c.us W (h1.next hW).rd.u (h2.next hW).rd.u hz.u0
  have HD : Hid (∀ W : World, Below w.heap.size w W → Calls _ _ _ W _) := fun W hW => eqDef_same c.dn (some ⟨gd1, 0, none⟩) (some ⟨gd2, 0, none⟩) c.dp.length c.dp.length c.dp W (ownD_in (h1.next hW).d) (ownD_in (h2.next hW).d) hz.d1
  obtain ⟨x0, x1, x2, x3, x4, x5, x6, x7, x8, x9, x10, x11, x12, x13, x14⟩ := fif X0.cb
  obtain ⟨y0, y1, y2, y3, y4, y5, y6, y7, y8, y9, y10, y11, y12, y13, y14⟩ := fif Y0.cb
  rw [size_alloc] at y0 y1 y2 y3 y4 y5 y6 y7 y8 y9 y10 y11 y12 y13 y14
  have xl := X0.lt
  have yl := Y0.lt
  clear h1 h2 hz
  go_enter Tryz.func17, Tryz.ntmps17
  go_wp2_with fail
  refine (HV.out _).mono ?_
  rintro e w1 ⟨rfl, hb⟩
  have X1 := X0.step hb
  have Y1 := Y0.step hb
  clear hb HV X0 Y0 x0 x1 x2 x3 x4 x5 x6 x7 x8 x9 x10 x11 x12 x13 x14 y0 y1 y2 y3 y4 y5 y6 y7 y8 y9 y10 y11 y12 y13 y14 xl yl
  obtain ⟨x0, x1, x2, x3, x4, x5, x6, x7, x8, x9, x10, x11, x12, x13, x14⟩ := fif X1.cb
  obtain ⟨y0, y1, y2, y3, y4, y5, y6, y7, y8, y9, y10, y11, y12, y13, y14⟩ := fif Y1.cb
  rw [size_alloc] at y0 y1 y2 y3 y4 y5 y6 y7 y8 y9 y10 y11 y12 y13 y14
  have xl := X1.lt
  have yl := Y1.lt
  go_wp2_with fail
  refine (HQ.out _ X1.bel).mono ?_
  rintro e w2 ⟨rfl, hb⟩
  have X2 := X1.step hb
  have Y2 := Y1.step hb
  clear hb HQ X1 Y1 x0 x1 x2 x3 x4 x5 x6 x7 x8 x9 x10 x11 x12 x13 x14 y0 y1 y2 y3 y4 y5 y6 y7 y8 y9 y10 y11 y12 y13 y14 xl yl
  obtain ⟨x0, x1, x2, x3, x4, x5, x6, x7, x8, x9, x10, x11, x12, x13, x14⟩ := fif X2.cb
  obtain ⟨y0, y1, y2, y3, y4, y5, y6, y7, y8, y9, y10, y11, y12, y13, y14⟩ := fif Y2.cb
  rw [size_alloc] at y0 y1 y2 y3 y4 y5 y6 y7 y8 y9 y10 y11 y12 y13 y14
  have xl := X2.lt
  have yl := Y2.lt
  go_wp2_with fail
  refine (HU.out _ X2.bel).mono ?_
  rintro e w3 ⟨rfl, hb⟩
  have X3 := X2.step hb
  have Y3 := Y2.step hb
  clear hb HU X2 Y2 x0 x1 x2 x3 x4 x5 x6 x7 x8 x9 x10 x11 x12 x13 x14 y0 y1 y2 y3 y4 y5 y6 y7 y8 y9 y10 y11 y12 y13 y14 xl yl
  obtain ⟨x0, x1, x2, x3, x4, x5, x6, x7, x8, x9, x10, x11, x12, x13, x14⟩ := fif X3.cb
  obtain ⟨y0, y1, y2, y3, y4, y5, y6, y7, y8, y9, y10, y11, y12, y13, y14⟩ := fif Y3.cb
  rw [size_alloc] at y0 y1 y2 y3 y4 y5 y6 y7 y8 y9 y10 y11 y12 y13 y14
  have xl := X3.lt
  have yl := Y3.lt
  go_wp2_with fail
  refine (HD.out _ X3.bel).mono ?_
  rintro e w4 ⟨rfl, hb⟩
  have X4 := X3.step hb
  have Y4 := Y3.step hb
  clear hb HD X3 Y3 x0 x1 x2 x3 x4 x5 x6 x7 x8 x9 x10 x11 x12 x13 x14 y0 y1 y2 y3 y4 y5 y6 y7 y8 y9 y10 y11 y12 y13 y14 xl yl
  have hbw := X4.bel
  clear X4 Y4
  go_wp2_with fail
  go_ret
  exact ⟨rfl, hbw⟩

end Go.Proofs.YtbplmgmajmomcaaGreatDoor.Cm
