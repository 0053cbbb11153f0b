/- The newest time that stands in a store: what the program answers. -/
import Derived.Test.YtpfbepbmiillbaaGreatDoorStoLR
import Derived.Test.YtpfbepbmiillbaaGreatDoorColNR
import Derived.Test.YtpfbepbmiillbaaGreatDoorChgBQ
import Derived.Test.YtpfbepbmiillbaaGreatDoorWrsVR
namespace Go.Proofs.YtpfbepbmiillbaaGreatDoor.Tx
open Go.RowKit Tr Co Rea Ce
set_option linter.unusedVariables false

def nwT (l : List Ver) : Int := (trP 10000 l).1.tm
def mx2 (a b : Int) : Int := max a b
def newC (a : Int) (l : List Chn) : Int := l.foldl (fun a c => mx2 a (nwT c.vs)) a
def newK (a : Int) (l : List Col) : Int := l.foldl (fun a c => newC a c.chs) a
def newX (a : Int) (l : List Tn) : Int := l.foldl (fun a t => mx2 a t.sp) a
def newD (a : Int) (l : List Dn) : Int := l.foldl (fun a t => mx2 a t.at_) a
/-- The newest time of a store. -/
def newestB (s : Sto) : Int := newD (newX (newK 0 s.cs) s.ts) s.ds
theorem newC_step (a : Int) (l : List Chn) (k : Nat) (h : k < l.length) : newC a (l.take (k + 1)) = mx2 (newC a (l.take k)) (nwT l[k].vs) := by
  unfold newC; rw [List.take_succ_eq_append_getElem h, List.foldl_append]; rfl
theorem newK_step (a : Int) (l : List Col) (k : Nat) (h : k < l.length) : newK a (l.take (k + 1)) = newC (newK a (l.take k)) l[k].chs := by
  unfold newK; rw [List.take_succ_eq_append_getElem h, List.foldl_append]; rfl
theorem newX_step (a : Int) (l : List Tn) (k : Nat) (h : k < l.length) : newX a (l.take (k + 1)) = mx2 (newX a (l.take k)) l[k].sp := by
  unfold newX; rw [List.take_succ_eq_append_getElem h, List.foldl_append]; rfl
theorem newD_step (a : Int) (l : List Dn) (k : Nat) (h : k < l.length) : newD a (l.take (k + 1)) = mx2 (newD a (l.take k)) l[k].at_ := by
  unfold newD; rw [List.take_succ_eq_append_getElem h, List.foldl_append]; rfl
theorem MadeChs.readCc {w : World} {base g : Nat} {f : List Chn} (h : MadeChs w base g f) : ReadCc w g f := by
  obtain ⟨lo, hi, h1, h2⟩ := h; exact h2.own.readCc
set_option maxRecDepth 4000 in
set_option maxHeartbeats 4000000 in
theorem newest_any (bs gc gt gd cc ct cd : Nat) (s : Sto) (w : World) (hm : MadeSto w bs gc gt gd s) (hz : SzSto s) :
    Calls Tryz.prog 42 #[.agg #[.slice (some ⟨gc, 0, none⟩) s.cs.length cc, .slice (some ⟨gt, 0, none⟩) s.ts.length ct, .slice (some ⟨gd, 0, none⟩) s.ds.length cd, .int .i64 s.clk]] w fun e w' => e = .returned (.int .i64 (newestB s)) ∧ Below w.heap.size w w' := by
  have X0 := BxTn.start w (.slice (some ⟨gc, 0, none⟩) s.cs.length cc) (.slice (some ⟨gt, 0, none⟩) s.ts.length ct) (.slice (some ⟨gd, 0, none⟩) s.ds.length cd) (.int .i64 s.clk) 33
  have HM : Hid (MadeSto _ _ _ _ _ _) := hm
  have HZ : Hid (SzSto s) := hz
  have hl0 := hz.c0
  have hl1 := hz.t0
  have hl2 := hz.d0
  clear hm hz
  have hfld : ∀ (V : Ver) (p' : Option Addr) (n' c' : Nat) (W : World), (Instr.field 131 (.agg #[.int .i64 V.tm, .bool V.gone, .int .i64 V.doc.k, .int .i64 V.doc.n, .string V.doc.t, .slice p' n' c']) 0).run Tryz.prog W = .ok (.agg #[.int .i64 V.tm, .bool V.gone, .int .i64 V.doc.k, .int .i64 V.doc.n, .string V.doc.t]) W := fun _ _ _ _ _ => by kernel_rfl
  have hfld2 : ∀ (V : Ver) (W : World), (Instr.field 70 (.agg #[.int .i64 V.tm, .bool V.gone, .int .i64 V.doc.k, .int .i64 V.doc.n, .string V.doc.t]) 0).run Tryz.prog W = .ok (.int .i64 V.tm) W := fun _ _ => by kernel_rfl
  obtain ⟨N, hN⟩ : ∃ N, N = newestB s := ⟨_, rfl⟩
  rw [← hN]
  have HN : Hid (N = newD (newX (newK 0 s.cs) s.ts) s.ds) := hN
  clear hN
  have c0 := X0.c0
  have c1 := X0.c1
  have c2 := X0.c2
  have cl := X0.lt
  go_enter Tryz.func42, Tryz.ntmps42
  go_wp2_with fail
  generalize w.alloc (.cells #[.slice (some ⟨gc, 0, none⟩) s.cs.length cc, .slice (some ⟨gt, 0, none⟩) s.ts.length ct, .slice (some ⟨gd, 0, none⟩) s.ds.length cd, .int .i64 s.clk] 33) = W0 at X0 c0 c1 c2 cl ⊢
  clear c0 c1 c2 cl
  go_loopw [15, 3] (fun i o wr => ∃ k : Nat, k ≤ s.cs.length ∧ i = .int .i64 k ∧ o = .int .i64 (newK 0 (s.cs.take k)) ∧ BxTn w wr (.slice (some ⟨gc, 0, none⟩) s.cs.length cc) (.slice (some ⟨gt, 0, none⟩) s.ts.length ct) (.slice (some ⟨gd, 0, none⟩) s.ds.length cd) (.int .i64 s.clk)) (fun i _ _ => s.cs.length - (intOf i).toNat)
  case atStart => exact ⟨0, Nat.zero_le _, rfl, rfl, X0⟩
  case round =>
    obtain ⟨k, hk, rfl, rfl, X⟩ := hrel
    clear X0
    have hbel := X.bel
    by_cases hlt : k < s.cs.length
    · have hlt2 : (k : Int) < (s.cs.length : Int) := by omega
      have R1 := HM.out.c.next hbel
      obtain ⟨gr, g2, ⟨x0, x1, x2⟩, hch, _, _⟩ := R1.cells k hlt
      have hg := R1.lt
      have hsz := HZ.out.c1 _ (List.getElem_mem hlt)
      have hst := newK_step 0 s.cs k hlt
      obtain ⟨c, hc⟩ : ∃ c, c = s.cs[k] := ⟨_, rfl⟩
      rw [← hc] at x0 x1 x2 hch hsz hst
      obtain ⟨A, hA⟩ : ∃ A, A = newK 0 (s.cs.take k) := ⟨_, rfl⟩
      rw [← hA] at hst ⊢
      have HST : Hid (newK 0 (s.cs.take (k + 1)) = newC A c.chs) := hst
      have B0 := Boxed.start wr (.string c.name) (.slice (some ⟨gr, 0, none⟩) c.chs.length c.chs.length) (.slice (some ⟨g2, 0, none⟩) c.dfs.length c.dfs.length) 63
      have b1 := B0.c1
      have bl := B0.lt
      have HCC : Hid (ReadCc _ _ _) := hch.readCc.next B0.bel
      have HX : Hid (BxTn _ _ _ _ _ _) := X.step B0.bel
      have HSC : Hid (∀ v ∈ c.chs, szCh v) := hsz.chs
      have hl3 := hsz.chl
      clear R1 hch hsz hst hc hA X
      go_wp2_with fail
      generalize wr.alloc (.cells #[.string c.name, .slice (some ⟨gr, 0, none⟩) c.chs.length c.chs.length, .slice (some ⟨g2, 0, none⟩) c.dfs.length c.dfs.length] 63) = WA at B0 b1 bl HCC HX ⊢
      clear x0 x1 x2 hg b1 bl B0
      go_loopw [22, 3] (fun i o wr => ∃ j : Nat, j ≤ c.chs.length ∧ i = .int .i64 j ∧ o = .int .i64 (newC A (c.chs.take j)) ∧ Below WA.heap.size WA wr) (fun i _ _ => c.chs.length - (intOf i).toNat)
      case atStart => exact ⟨0, Nat.zero_le _, rfl, rfl, Below.refl _ _⟩
      case round =>
        obtain ⟨j, hj, rfl, rfl, hbl⟩ := hrel
        by_cases hjt : j < c.chs.length
        · have hjt2 : (j : Int) < (c.chs.length : Int) := by omega
          have R2 := HCC.out.next hbl
          obtain ⟨z0, pv, cv, z1, hcv, hin⟩ := R2.cells j hjt
          have hg2 := R2.lt
          have hst := newC_step A c.chs j hjt
          have hsx := HSC.out _ (List.getElem_mem hjt)
          obtain ⟨h, hh⟩ : ∃ h, h = c.chs[j] := ⟨_, rfl⟩
          rw [← hh] at z0 z1 hcv hin hst hsx
          have D0 := Box2.start wr (.int .i64 h.id) (.slice pv h.vs.length cv) 66
          have d0 := D0.c0
          have d1 := D0.c1
          have dl := D0.lt
          have HTN : Hid (Calls _ _ _ _ _) := trackNow_any h.id pv cv h.vs _ (hin.step D0.bel) hsx.1 hcv
          have HS2 : Hid (newC A (c.chs.take (j + 1)) = mx2 (newC A (c.chs.take j)) (nwT h.vs)) := hst
          have hnt : nwT h.vs = (trP 10000 h.vs).1.tm := rfl
          obtain ⟨V, hV⟩ : ∃ V, V = (trP 10000 h.vs).1 := ⟨_, rfl⟩
          rw [← hV] at HTN hnt
          have HNT : Hid (_ = _) := hnt
          have hb2 := hbl.trans (D0.bel.mono hbl.size)
          clear R2 hin hsx hst hh hV hnt
          go_wp2_with fail
          refine HTN.out.mono ?_
          rintro e w1 ⟨⟨p', n', c', rfl⟩, hb⟩
          have hf := hfld V p' n' c'
          have hf2 := hfld2 V
          have hb3 := hb2.trans (hb.mono hb2.size)
          clear hb
          go_wp2_with fail
          go_roundw
          case rel => exact ⟨j + 1, by omega, by go_num, by rw [HS2.out, HNT.out]; rfl, hb3⟩
          case measure => simp [intOf]; omega
        · have hjt2 : ¬ (j : Int) < (c.chs.length : Int) := by omega
          have hal : newC A (c.chs.take j) = newC A c.chs := by rw [List.take_of_length_le (by omega)]
          rw [hal]
          have HX2 : Hid (BxTn _ _ _ _ _ _) := HX.out.step hbl
          clear hal
          go_wp2_with fail
          go_roundw
          case rel => exact ⟨k + 1, by omega, by go_num, by rw [HST.out], HX2.out⟩
          case measure => simp [intOf]; omega
    · have hlt2 : ¬ (k : Int) < (s.cs.length : Int) := by omega
      have hal : newK 0 (s.cs.take k) = newK 0 s.cs := by rw [List.take_of_length_le (by omega)]
      rw [hal]
      obtain ⟨A, hA⟩ : ∃ A, A = newK 0 s.cs := ⟨_, rfl⟩
      rw [← hA] at HN ⊢
      have c1 := X.c1
      have cl := X.lt
      clear hal hA hbel
      go_wp2_with fail
      generalize hWW : wr = W1 at X ⊢
      clear hWW c1 cl
      go_loopw [37, 3] (fun i o wr => ∃ k : Nat, k ≤ s.ts.length ∧ i = .int .i64 k ∧ o = .int .i64 (newX A (s.ts.take k)) ∧ BxTn w wr (.slice (some ⟨gc, 0, none⟩) s.cs.length cc) (.slice (some ⟨gt, 0, none⟩) s.ts.length ct) (.slice (some ⟨gd, 0, none⟩) s.ds.length cd) (.int .i64 s.clk)) (fun i _ _ => s.ts.length - (intOf i).toNat)
      case atStart => exact ⟨0, Nat.zero_le _, rfl, rfl, X⟩
      case round =>
        obtain ⟨k, hk, rfl, rfl, Y⟩ := hrel
        clear X
        have hbel := Y.bel
        by_cases hlt : k < s.ts.length
        · have hlt2 : (k : Int) < (s.ts.length : Int) := by omega
          have R1 := HM.out.t.next hbel
          obtain ⟨gr, g2, ⟨x0, x1, x2, x3⟩, _, _, _⟩ := R1.cells k hlt
          have hg := R1.lt
          have hst := newX_step A s.ts k hlt
          obtain ⟨c, hc⟩ : ∃ c, c = s.ts[k] := ⟨_, rfl⟩
          rw [← hc] at x0 x1 x2 x3 hst
          have HST : Hid (newX A (s.ts.take (k + 1)) = mx2 (newX A (s.ts.take k)) c.sp) := hst
          have B0 := BxTn.start wr (.int .i64 c.sn) (.int .i64 c.sp) (.slice (some ⟨gr, 0, none⟩) c.rs.length c.rs.length) (.slice (some ⟨g2, 0, none⟩) c.cs.length c.cs.length) 75
          have b1 := B0.c1
          have bl := B0.lt
          have HX : Hid (BxTn _ _ _ _ _ _) := Y.step B0.bel
          clear R1 hst hc Y
          go_wp2_with fail
          go_roundw
          case rel => exact ⟨k + 1, by omega, by go_num, by rw [HST.out]; rfl, HX.out⟩
          case measure => simp [intOf]; omega
        · have hlt2 : ¬ (k : Int) < (s.ts.length : Int) := by omega
          have hal : newX A (s.ts.take k) = newX A s.ts := by rw [List.take_of_length_le (by omega)]
          rw [hal]
          obtain ⟨A2, hA⟩ : ∃ A2, A2 = newX A s.ts := ⟨_, rfl⟩
          rw [← hA] at HN ⊢
          have c2 := Y.c2
          have cl := Y.lt
          clear hal hA hbel
          go_wp2_with fail
          generalize hWW : wr = W2 at Y ⊢
          clear hWW c2 cl
          go_loopw [49, 3] (fun i o wr => ∃ k : Nat, k ≤ s.ds.length ∧ i = .int .i64 k ∧ o = .int .i64 (newD A2 (s.ds.take k)) ∧ Below w.heap.size w wr) (fun i _ _ => s.ds.length - (intOf i).toNat)
          case atStart => exact ⟨0, Nat.zero_le _, rfl, rfl, Y.bel⟩
          case round =>
            obtain ⟨k, hk, rfl, rfl, hbel⟩ := hrel
            clear Y
            by_cases hlt : k < s.ds.length
            · have hlt2 : (k : Int) < (s.ds.length : Int) := by omega
              have R1 := HM.out.d.next hbel
              obtain ⟨gr, g2, ⟨x0, x1, x2, x3, x4, x5⟩, _, _, _⟩ := R1.cells k hlt
              have hg := R1.lt
              have hst := newD_step A2 s.ds k hlt
              obtain ⟨c, hc⟩ : ∃ c, c = s.ds[k] := ⟨_, rfl⟩
              rw [← hc] at x0 x1 x2 x3 x4 x5 hst
              have HST : Hid (newD A2 (s.ds.take (k + 1)) = mx2 (newD A2 (s.ds.take k)) c.at_) := hst
              have hbA : Below wr.heap.size wr (wr.alloc (.cells #[.int .i64 c.sn, .int .i64 c.at_, .slice (some ⟨gr, 0, none⟩) c.rs.length c.rs.length, .slice (some ⟨g2, 0, none⟩) c.cs.length c.cs.length, .bool c.di, .bool c.do_] 81)) := (Below.refl _ _).alloc (Nat.le_refl _) _
              have hb2 := hbel.trans (hbA.mono hbel.size)
              clear R1 hst hc hbA
              go_wp2_with fail
              go_roundw
              case rel => exact ⟨k + 1, by omega, by go_num, by rw [HST.out]; rfl, hb2⟩
              case measure => simp [intOf]; omega
            · have hlt2 : ¬ (k : Int) < (s.ds.length : Int) := by omega
              have hal : newD A2 (s.ds.take k) = N := by rw [List.take_of_length_le (by omega)]; exact HN.out.symm
              rw [hal]
              clear hal
              go_wp2_with fail
              go_ret
              exact ⟨rfl, hbel⟩

end Go.Proofs.YtpfbepbmiillbaaGreatDoor.Tx

/- What the program's comparing of entries answers. -/
namespace Go.Proofs.YtpfbepbmiillbaaGreatDoor.Tr
open Go.RowKit
set_option linter.unusedVariables false

set_option maxRecDepth 4000 in
set_option maxHeartbeats 1000000 in
theorem cmpInt_any (x y : Int) (w : World) : Calls Tryz.prog 184 #[.int .i64 x, .int .i64 y] w fun e w' => e = .returned (.int .i64 (cI x y)) ∧ w' = w := by
  by_cases h1 : x < y
  · have e : cI x y = -1 := by unfold cI Lib.compareInt; rw [if_pos h1]
    rw [e]
    go_enter Tryz.func184, Tryz.ntmps184
    go_wp2
    go_ret
    exact ⟨rfl, rfl⟩
  · by_cases h2 : y < x
    · have e : cI x y = 1 := by unfold cI Lib.compareInt; rw [if_neg h1, if_pos h2]
      rw [e]
      go_enter Tryz.func184, Tryz.ntmps184
      go_wp2
      go_ret
      exact ⟨rfl, rfl⟩
    · have e : cI x y = 0 := by unfold cI Lib.compareInt; rw [if_neg h1, if_neg h2]
      rw [e]
      go_enter Tryz.func184, Tryz.ntmps184
      go_wp2
      go_ret
      exact ⟨rfl, rfl⟩
set_option maxRecDepth 4000 in
set_option maxHeartbeats 1000000 in
theorem or_first (g c : Nat) (x : Int) (w : World) (h0 : w.cell? ⟨g, 0, none⟩ = some (.int .i64 x)) (hx : x ≠ 0) :
    Calls Tryz.prog 182 #[.slice (some ⟨g, 0, none⟩) 2 c] w fun e w' => e = .returned (.int .i64 x) ∧ w' = w := by
  have e0 : (x == 0) = false := beq_eq_false_iff_ne.mpr hx
  go_enter Tryz.func182, Tryz.ntmps182
  go_wp2_with fail
  refine wp_loop_rounds 1 ?_
  rw [rounds_succ]
  go_wp2_with fail
  go_ret
  exact ⟨rfl, rfl⟩
set_option maxRecDepth 4000 in
set_option maxHeartbeats 1000000 in
theorem or_second (g c : Nat) (y : Int) (w : World) (h0 : w.cell? ⟨g, 0, none⟩ = some (.int .i64 0)) (h1 : w.cell? ⟨g, 1, none⟩ = some (.int .i64 y)) (hy : y ≠ 0) :
    Calls Tryz.prog 182 #[.slice (some ⟨g, 0, none⟩) 2 c] w fun e w' => e = .returned (.int .i64 y) ∧ w' = w := by
  have e0 : (y == 0) = false := beq_eq_false_iff_ne.mpr hy
  go_enter Tryz.func182, Tryz.ntmps182
  go_wp2_with fail
  refine wp_loop_rounds 2 ?_
  rw [rounds_succ]
  go_wp2_with fail
  rw [rounds_succ]
  go_wp2_with fail
  go_ret
  exact ⟨rfl, rfl⟩
set_option maxRecDepth 4000 in
set_option maxHeartbeats 1000000 in
theorem or_none (g c : Nat) (w : World) (h0 : w.cell? ⟨g, 0, none⟩ = some (.int .i64 0)) (h1 : w.cell? ⟨g, 1, none⟩ = some (.int .i64 0)) :
    Calls Tryz.prog 182 #[.slice (some ⟨g, 0, none⟩) 2 c] w fun e w' => e = .returned (.int .i64 0) ∧ w' = w := by
  go_enter Tryz.func182, Tryz.ntmps182
  go_wp2_with fail
  refine wp_loop_rounds 3 ?_
  rw [rounds_succ]
  go_wp2_with fail
  rw [rounds_succ]
  go_wp2_with fail
  rw [rounds_succ]
  go_wp2_with fail
  go_ret
  exact ⟨rfl, rfl⟩
set_option maxRecDepth 100000 in
set_option maxHeartbeats 1000000 in
theorem cmpStr0_any (a b : ByteArray) (w : World) : Calls Tryz.prog 209 #[.string a, .string b] w fun e w' => e = .returned (.int .i64 (cB a b)) ∧ w' = w := by
  go_enter Tryz.func209, Tryz.ntmps209
  go_wp2
  rw [run_callFunc_extern Tryz.func230 (by kernel_rfl) (by kernel_rfl) (by kernel_rfl) (e := Extern.BytealgCompare.compare) (by kernel_rfl), Lib.run_compareString]
  simp only [Result.andThen]
  rw [Oper.upon_value]
  go_wp2
  go_ret
  exact ⟨rfl, rfl⟩
set_option maxHeartbeats 1000000 in
theorem cmpStr_any (a b : ByteArray) (w : World) : Calls Tryz.prog 183 #[.string a, .string b] w fun e w' => e = .returned (.int .i64 (cB a b)) ∧ w' = w := by
  go_enter Tryz.func183, Tryz.ntmps183
  go_wp2_with (go_at_call 209; refine (cmpStr0_any a b _).mono ?_; rintro e w1 ⟨rfl, rfl⟩)
  go_ret
  exact ⟨rfl, rfl⟩

end Go.Proofs.YtpfbepbmiillbaaGreatDoor.Tr

/- Writes compared, and whether they rise: what the program and the specification answer. -/
namespace Go.Proofs.YtpfbepbmiillbaaGreatDoor.Tx
open Go.RowKit Tr Co Ce
set_option linter.unusedVariables false

/-- A write's collection and id, as an entry. -/
def ew (x : Wrt) : Ent := ⟨x.coll, x.id⟩
structure TwoW (w W : World) (a b : Wrt) : Prop where
  bel : Below w.heap.size w W
  lt : w.heap.size + 1 < W.heap.size
  c0 : W.cell? ⟨w.heap.size, 0, none⟩ = some (.string a.coll)
  c1 : W.cell? ⟨w.heap.size, 1, none⟩ = some (.int .i64 a.id)
  d0 : W.cell? ⟨w.heap.size + 1, 0, none⟩ = some (.string b.coll)
  d1 : W.cell? ⟨w.heap.size + 1, 1, none⟩ = some (.int .i64 b.id)
theorem TwoW.start (w : World) (a b : Wrt) (T : TypeId) : TwoW w ((w.alloc (.cells #[.string a.coll, .int .i64 a.id, .bool a.gone, .int .i64 a.doc.k, .int .i64 a.doc.n, .string a.doc.t] T)).alloc (.cells #[.string b.coll, .int .i64 b.id, .bool b.gone, .int .i64 b.doc.k, .int .i64 b.doc.n, .string b.doc.t] T)) a b :=
  ⟨((Below.refl _ _).alloc (Nat.le_refl _) _).alloc (by simp) _, by simp, by simp [go_sem], by simp [go_sem], by simp [go_sem], by simp [go_sem]⟩
theorem TwoW.step {w W W' : World} {a b : Wrt} (h : TwoW w W a b) (hb : Below W.heap.size W W') : TwoW w W' a b :=
  have hl : w.heap.size < W.heap.size := Nat.lt_of_succ_lt h.lt
  ⟨h.bel.trans (hb.mono h.bel.size), Nat.lt_of_lt_of_le h.lt hb.size, (hb.cell hl).trans h.c0, (hb.cell hl).trans h.c1, (hb.cell h.lt).trans h.d0, (hb.cell h.lt).trans h.d1⟩
theorem TwoW.drawn {w V : World} {a b : Wrt} {T : TypeId} (h : V = ((w.alloc (.cells #[.string a.coll, .int .i64 a.id, .bool a.gone, .int .i64 a.doc.k, .int .i64 a.doc.n, .string a.doc.t] T)).alloc (.cells #[.string b.coll, .int .i64 b.id, .bool b.gone, .int .i64 b.doc.k, .int .i64 b.doc.n, .string b.doc.t] T)).drew) : TwoW w V a b := by
  subst h
  exact (TwoW.start w a b T).step (Below.refl _ _).drew

set_option maxRecDepth 4000 in
set_option maxHeartbeats 2000000 in
theorem compareWrites_any (a b : Wrt) (w : World) :
    Calls Tryz.prog 150 #[.agg #[.string a.coll, .int .i64 a.id, .bool a.gone, .int .i64 a.doc.k, .int .i64 a.doc.n, .string a.doc.t], .agg #[.string b.coll, .int .i64 b.id, .bool b.gone, .int .i64 b.doc.k, .int .i64 b.doc.n, .string b.doc.t]] w fun e w' => e = .returned (.int .i64 (cmpE (ew a) (ew b))) ∧ Below w.heap.size w w' := by
  by_cases h : a.coll = b.coll
  · have hp0 : cB a.coll b.coll = 0 := (cB_zero _ _).2 h
    have HP : ∀ W : World, Calls Tryz.prog 183 #[.string a.coll, .string b.coll] W fun e w' => e = .returned (.int .i64 0) ∧ w' = W := fun W => by have := cmpStr_any a.coll b.coll W; rw [hp0] at this; exact this
    rw [cmpE_id (ew a) (ew b) h]
    show Calls _ _ _ _ (fun e w' => e = .returned (.int .i64 (cI a.id b.id)) ∧ Below w.heap.size w w')
    by_cases ho : a.id = b.id
    · have ho0 : cI a.id b.id = 0 := (cI_zero _ _).2 ho
      have HQ : ∀ W : World, Calls Tryz.prog 184 #[.int .i64 a.id, .int .i64 b.id] W fun e w' => e = .returned (.int .i64 0) ∧ w' = W := fun W => by have := cmpInt_any a.id b.id W; rw [ho0] at this; exact this
      rw [ho0]
      clear h ho hp0 ho0
      go_enter Tryz.func150, Tryz.ntmps150
      go_wp2_with fail
      refine still_tail_at 10 (by kernel_rfl) (by kernel_rfl) ?_
      intro V hV
      have X := TwoW.drawn hV
      obtain ⟨hbw, hlt, c0, c1, d0, d1⟩ := X
      clear hV
      simp only [List.take_succ_cons, List.take_zero, List.drop_succ_cons, List.drop_zero]
      repeat still_step
      still_call (HP _)
      repeat still_step
      still_call (HQ _)
      refine wpStill_nil ?_
      go_wp2_with (go_at_call 182; refine (or_none _ _ _ (by simp [go_sem]) (by simp [go_sem])).mono ?_; rintro e w1 ⟨rfl, rfl⟩)
      go_ret
      exact ⟨rfl, by (repeat (first | (with_reducible exact Below.refl _ _) | (with_reducible assumption) | (with_reducible apply below_drewN) | (with_reducible apply Below.drew) | ((with_reducible refine Below.setCell ?_ ?_ _); rotate_left; focus (first | (simp; done) | (simp; omega) | omega)) | ((with_reducible refine Below.alloc ?_ ?_ _); rotate_left; focus (first | (simp; done) | (simp; omega) | omega))))⟩
    · have hnz : cI a.id b.id ≠ 0 := fun e => ho ((cI_zero _ _).1 e)
      have hnb : (cI a.id b.id == 0) = false := beq_eq_false_iff_ne.mpr hnz
      clear h ho hp0
      go_enter Tryz.func150, Tryz.ntmps150
      go_wp2_with fail
      refine still_tail_at 10 (by kernel_rfl) (by kernel_rfl) ?_
      intro V hV
      have X := TwoW.drawn hV
      obtain ⟨hbw, hlt, c0, c1, d0, d1⟩ := X
      clear hV
      simp only [List.take_succ_cons, List.take_zero, List.drop_succ_cons, List.drop_zero]
      repeat still_step
      still_call (HP _)
      repeat still_step
      still_call (cmpInt_any a.id b.id _)
      refine wpStill_nil ?_
      go_wp2_with (go_at_call 182; refine (or_second _ _ (cI a.id b.id) _ (by simp [go_sem]) (by simp [go_sem]) hnz).mono ?_; rintro e w1 ⟨rfl, rfl⟩)
      go_ret
      exact ⟨rfl, by (repeat (first | (with_reducible exact Below.refl _ _) | (with_reducible assumption) | (with_reducible apply below_drewN) | (with_reducible apply Below.drew) | ((with_reducible refine Below.setCell ?_ ?_ _); rotate_left; focus (first | (simp; done) | (simp; omega) | omega)) | ((with_reducible refine Below.alloc ?_ ?_ _); rotate_left; focus (first | (simp; done) | (simp; omega) | omega))))⟩
  · rw [cmpE_key (ew a) (ew b) h]
    show Calls _ _ _ _ (fun e w' => e = .returned (.int .i64 (cB a.coll b.coll)) ∧ Below w.heap.size w w')
    have hnz : cB a.coll b.coll ≠ 0 := fun e => h ((cB_zero _ _).1 e)
    have hnb : (cB a.coll b.coll == 0) = false := beq_eq_false_iff_ne.mpr hnz
    clear h
    go_enter Tryz.func150, Tryz.ntmps150
    go_wp2_with fail
    refine still_tail_at 10 (by kernel_rfl) (by kernel_rfl) ?_
    intro V hV
    have X := TwoW.drawn hV
    obtain ⟨hbw, hlt, c0, c1, d0, d1⟩ := X
    clear hV
    simp only [List.take_succ_cons, List.take_zero, List.drop_succ_cons, List.drop_zero]
    repeat still_step
    still_call (cmpStr_any a.coll b.coll _)
    repeat still_step
    still_call (cmpInt_any a.id b.id _)
    refine wpStill_nil ?_
    go_wp2_with (go_at_call 182; refine (or_first _ _ (cB a.coll b.coll) _ (by simp [go_sem]) hnz).mono ?_; rintro e w1 ⟨rfl, rfl⟩)
    go_ret
    exact ⟨rfl, by (repeat (first | (with_reducible exact Below.refl _ _) | (with_reducible assumption) | (with_reducible apply below_drewN) | (with_reducible apply Below.drew) | ((with_reducible refine Below.setCell ?_ ?_ _); rotate_left; focus (first | (simp; done) | (simp; omega) | omega)) | ((with_reducible refine Below.alloc ?_ ?_ _); rotate_left; focus (first | (simp; done) | (simp; omega) | omega))))⟩


set_option maxRecDepth 4000 in
set_option maxHeartbeats 1000000 in
theorem l10Less_any (a b : Wrt) (w : World) :
    Calls Tryz.prog 67 #[.agg #[.string a.coll, .int .i64 a.id, .bool a.gone, .int .i64 a.doc.k, .int .i64 a.doc.n, .string a.doc.t], .agg #[.string b.coll, .int .i64 b.id, .bool b.gone, .int .i64 b.doc.k, .int .i64 b.doc.n, .string b.doc.t]] w fun e w' => e = .returned (.bool (lessE (ew a) (ew b))) ∧ Below w.heap.size w w' := by
  have hbw : Below w.heap.size w ((w.alloc (.cells #[.string a.coll, .int .i64 a.id, .bool a.gone, .int .i64 a.doc.k, .int .i64 a.doc.n, .string a.doc.t] 78)).alloc (.cells #[.string b.coll, .int .i64 b.id, .bool b.gone, .int .i64 b.doc.k, .int .i64 b.doc.n, .string b.doc.t] 78)) := ((Below.refl _ _).alloc (Nat.le_refl _) _).alloc (by simp) _
  have hd : lessE (ew a) (ew b) = (Op.bytesLess a.coll.toList b.coll.toList || (a.coll.toList == b.coll.toList && decide (a.id < b.id))) := rfl
  rw [hd]
  clear hd
  cases hL : Op.bytesLess a.coll.toList b.coll.toList <;> cases hE : (a.coll.toList == b.coll.toList) <;> by_cases hi : a.id < b.id
  all_goals
    go_enter Tryz.func67, Tryz.ntmps67
    go_wp2_with fail
    go_ret
    exact ⟨by simp [hi], hbw⟩
/-- Whether writes are right and rise behind one. -/
def riseW : Option Wrt → List Wrt → Bool
  | _, [] => true
  | none, x :: t => writeB x && riseW (some x) t
  | some y, x :: t => writeB x && (lessE (ew y) (ew x) && riseW (some x) t)
def lastW (l : List Wrt) (k : Nat) : Option Wrt := if k = 0 then none else l[k - 1]?
def wrsB (l : List Wrt) : Bool := riseW none l
theorem lastW_succ (l : List Wrt) (k : Nat) (h : k < l.length) : lastW l (k + 1) = some l[k] := by unfold lastW; rw [if_neg (by omega)]; simp [List.getElem?_eq_getElem h]
theorem riseW_first (l : List Wrt) (h : 0 < l.length) : riseW (lastW l 0) (l.drop 0) = (writeB l[0] && riseW (lastW l 1) (l.drop 1)) := by
  rw [List.drop_eq_getElem_cons h, lastW_succ l 0 h]; rfl
theorem riseW_step (l : List Wrt) (k : Nat) (h0 : 0 < k) (h : k < l.length) : riseW (lastW l k) (l.drop k) = (writeB l[k] && (lessE (ew l[k - 1]) (ew l[k]) && riseW (lastW l (k + 1)) (l.drop (k + 1)))) := by
  rw [List.drop_eq_getElem_cons h, lastW_succ l k h]
  have : lastW l k = some (l[k - 1]'(by omega)) := by have := lastW_succ l (k - 1) (by omega); rw [show k - 1 + 1 = k by omega] at this; exact this
  rw [this]; rfl

end Go.Proofs.YtpfbepbmiillbaaGreatDoor.Tx
