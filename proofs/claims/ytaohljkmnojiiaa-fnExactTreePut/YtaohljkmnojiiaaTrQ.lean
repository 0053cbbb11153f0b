/- Trees made out of the laws' own, and trees held against each other: what the laws' helpers answer. -/
import Derived.Test.YtaohljkmnojiiaaTrP
namespace Go.Proofs.Ytaohljkmnojiiaa.Tr
open Go.RowKit
set_option linter.unusedVariables false

set_option maxRecDepth 4000 in
set_option maxHeartbeats 1000000 in
theorem toPageS_any (a : Option Addr) (cap : Nat) (f : List Pg) (w : World) (hin : InP w a f) (hlen : f.length ≤ 1048576) (hs : ∀ l ∈ f, l.es.length ≤ 1048576) :
    Calls Try.prog 83 #[.slice a f.length cap] w fun e w' => (∃ g, e = .returned (.slice (some ⟨g, 0, none⟩) f.length f.length) ∧ OwnT w' w.heap.size (.slice (some ⟨g, 0, none⟩) f.length f.length) f) ∧ Below w.heap.size w w' := by
  obtain ⟨i0, hi, hz0, hz1, hz2⟩ := info_parts infoP
  have HI : Hid (InP _ _ _) := hin
  have HS : Hid _ := hs
  clear hin hs
  go_enter Try.func83, Try.ntmps83
  go_wp2_with (refine wpList_make_full _ rfl (.tmp 6) (.tmp 6) 35 rfl w.heap.size 101 i0 (.agg #[.int .i64 0, .slice none 0 0]) 2 Try.underlying35 hi hz0 hz1 .i64 .i64 _ _ f.length rfl rfl rfl rfl (by rw [hz2]; omega) (by unfold maxLen; omega) (Nat.le_refl _) ?_; intro w1 hown1 hgrow1)
  have hb1 : Below w.heap.size w w1 := Below.grown (Below.refl _ _) hgrow1 (Nat.le_refl _) (fun k h => by cases h)
  clear hgrow1
  go_loopw [4] (fun i wr => ∃ (k : Nat) (vs : Nat → Value) (xs : List Value), k ≤ f.length ∧ i = .int .i64 k ∧ PartT wr w.heap.size (.slice (some ⟨w.heap.size, 0, none⟩) f.length f.length) f.length f k vs xs ∧ Below w.heap.size w wr) (fun i _ => f.length - (intOf i).toNat)
  case atStart => exact ⟨0, fun _ => .slice none 0 0, _, Nat.zero_le _, rfl, ⟨hown1, fun i h hi => absurd hi (by omega), fun i h hi => absurd hi (by omega), fun i j h h2 hi => absurd hi (by omega), fun i h hi => absurd hi (by omega)⟩, hb1⟩
  case round =>
    obtain ⟨k, vs, xs, hk, rfl, hpart, hbel⟩ := hrel
    clear hown1 hb1
    by_cases hlt : k < f.length
    · rcases HI.out.step hbel with h0 | ⟨b, off, rfl, hbl, hc⟩
      · omega
      · have hlt2 : (k : Int) < (f.length : Int) := by omega
        obtain ⟨x0, p, pc, x1, hT⟩ := hc k hlt
        have HC : Hid (Calls _ _ _ _ _) := toPage_any f[k].num p pc f[k].es wr hT (HS.out f[k] (List.getElem_mem _))
        have hz := hbel.size
        have HP : Hid (PartT _ _ _ _ _ _ _ _) := hpart
        have HB : Hid _ := hbel
        have hgl : w.heap.size < wr.heap.size := (hpart.row.lt _ rfl).2
        clear hc hbel hT hpart
        go_wp2_with fail
        refine HC.out.mono ?_
        rintro e w2 ⟨⟨g2, rfl, hR2⟩, hb2⟩
        have hp2 := HP.out.next hb2
        obtain ⟨z0, y0⟩ := own_there hp2.row (k * 2) (by omega)
        obtain ⟨z1, y1⟩ := own_there hp2.row (k * 2 + 1) (by omega)
        have f0 := World.ownsRow.frozenAt hp2.row (k * 2)
        have f1 := World.ownsRow.frozenAt hp2.row (k * 2 + 1)
        have hg2 : wr.heap.size ≤ g2 := (World.ownsRow.lt hR2 g2 rfl).1
        have hst := hp2.store hlt hlt (owns_mono hR2 (by omega)) (.inr (fun e => by injection e with e; simp at e; omega)) (fun i hi hik => .inr (fun e => by
          have := (World.ownsRow.lt (HP.out.ents i hi hik) g2 e.symm).2
          omega))
        have HST : Hid (PartT _ _ _ _ _ _ _ _) := hst
        have HB2 : Hid _ := HB.out.trans (hb2.mono HB.out.size)
        have hz2 := hb2.size
        clear hst hp2 hb2 hR2 HC
        go_wp2_with fail
        go_roundw
        case rel => exact ⟨k + 1, _, _, by omega, by go_num, HST.out, (HB2.out.setCell (Nat.le_refl _) _).setCell (Nat.le_refl _) _⟩
        case measure => simp [intOf]; omega
    · have hlt2 : ¬ (k : Int) < (f.length : Int) := by omega
      obtain rfl : k = f.length := by omega
      have HR : Hid (OwnT _ _ _ _) := ⟨vs, xs, hpart⟩
      clear hpart
      go_wp2_with fail
      go_ret
      exact ⟨⟨w.heap.size, rfl, HR.out⟩, hbel⟩

set_option maxRecDepth 4000 in
set_option maxHeartbeats 1000000 in
theorem toTree_any (a : Option Addr) (cap : Nat) (f : List Pg) (next : Int) (w : World) (hin : InP w a f) (hlen : f.length ≤ 1048576) (hs : ∀ l ∈ f, l.es.length ≤ 1048576) :
    Calls Try.prog 38 #[.agg #[.slice a f.length cap, .int .i64 next]] w fun e w' => (∃ g, e = .returned (.agg #[.slice (some ⟨g, 0, none⟩) f.length f.length, .int .i64 next]) ∧ OwnT w' w.heap.size (.slice (some ⟨g, 0, none⟩) f.length f.length) f) ∧ Below w.heap.size w w' := by
  have hb0 : Below w.heap.size w (((w.alloc (.cells #[.slice a f.length cap, .int .i64 next] 65)).alloc (.cells #[.slice none 0 0, .int .i64 0] 37)).alloc (.cells #[.slice none 0 0, .int .i64 0] 37)) := (((Below.refl _ _).alloc (Nat.le_refl _) _).alloc (by simp) _).alloc (by simp; omega) _
  have HC : Hid (Calls _ _ _ _ _) := toPageS_any a cap f _ (hin.step hb0) hlen hs
  clear hin hs
  go_enter Try.func38, Try.ntmps38
  go_wp2_with fail
  refine HC.out.mono ?_
  rintro e w1 ⟨⟨g, rfl, hR⟩, hb⟩
  obtain ⟨hc, hf⟩ := bcell hb
  have hz : w.heap.size + 2 < w1.heap.size := by have := hb.size; simp at this; omega
  have hbw : Below w.heap.size w w1 := hb0.trans (hb.mono (by simp; omega))
  have HR : Hid (OwnT _ _ _ _) := hR
  clear hb HC hR hb0
  go_wp2_with fail
  refine bodyPost_ret (v := .agg #[.slice (some ⟨g, 0, none⟩) f.length f.length, .int .i64 next]) (by simp [results, Try.results38, go_sem, *]) rfl ⟨⟨g, rfl, ?_⟩, ?_⟩
  · refine OwnT.mono (base := w.heap.size + 3) ?_ (by omega)
    have h1 : OwnT w1 (w.heap.size + 3) _ f := HR.out.mono (by simp)
    exact (((h1.grown grown_set (by omega)).grown grown_set (by omega)).grown grown_set (by omega)).grown grown_set (by omega)
  · (repeat (first | (with_reducible exact Below.refl _ _) | (with_reducible assumption) | (with_reducible apply below_drewN) | (with_reducible apply Below.drew) | ((with_reducible refine Below.setCell ?_ ?_ _); rotate_left; focus (first | (simp; done) | (simp; omega) | omega)) | ((with_reducible refine Below.alloc ?_ ?_ _); rotate_left; focus (first | (simp; done) | (simp; omega) | omega))))

set_option maxRecDepth 4000 in
set_option maxHeartbeats 1000000 in
theorem eqPage_same (num : Int) (p1 p2 : Option Addr) (c1 c2 : Nat) (l : List Ent) (w : World) (h1 : InE w p1 l) (h2 : InE w p2 l) (hl : l.length ≤ 1048576) :
    Calls Try.prog 135 #[.agg #[.int .i64 num, .slice p1 l.length c1], .agg #[.int .i64 num, .slice p2 l.length c2]] w fun e w' => e = .returned (.bool true) ∧ Below w.heap.size w w' := by
  have hb0 : Below w.heap.size w ((w.alloc (.cells #[.int .i64 num, .slice p1 l.length c1] 101)).alloc (.cells #[.int .i64 num, .slice p2 l.length c2] 101)) := ((Below.refl _ _).alloc (Nat.le_refl _) _).alloc (by simp) _
  have HC : Hid (Calls _ _ _ _ _) := eqEntryS_same p1 p2 c1 c2 l _ (h1.step hb0) (h2.step hb0) hl
  clear h1 h2
  go_enter Try.func135, Try.ntmps135
  go_wp2_with fail
  refine HC.out.mono ?_
  rintro e w1 ⟨rfl, hb⟩
  have hbw := hb0.trans (hb.mono hb0.size)
  clear hb HC
  go_wp2_with fail
  go_ret
  exact ⟨rfl, hbw⟩

set_option maxRecDepth 4000 in
set_option maxHeartbeats 1000000 in
theorem eqPageS_same (p1 p2 : Option Addr) (c1 c2 : Nat) (f : List Pg) (w : World) (h1 : RowP w p1 f) (h2 : RowP w p2 f) (hlen : f.length ≤ 1048576) (hs : ∀ l ∈ f, l.es.length ≤ 1048576) :
    Calls Try.prog 84 #[.slice p1 f.length c1, .slice p2 f.length c2] w fun e w' => e = .returned (.bool true) ∧ Below w.heap.size w w' := by
  have H1 : Hid (RowP _ _ _) := h1
  have H2 : Hid (RowP _ _ _) := h2
  have HS : Hid _ := hs
  clear h1 h2 hs
  go_enter Try.func84, Try.ntmps84
  go_wp2_with fail
  go_loopw [5] (fun i wr => ∃ k : Nat, k ≤ f.length ∧ i = .int .i64 k ∧ Below w.heap.size w wr) (fun i _ => f.length - (intOf i).toNat)
  case atStart => exact ⟨0, Nat.zero_le _, rfl, Below.refl _ _⟩
  case round =>
    obtain ⟨k, hk, rfl, hbel⟩ := hrel
    by_cases hlt : k < f.length
    · rcases H1.out.next hbel with h0 | ⟨g1, rfl, R1⟩
      · subst h0; simp at hlt
      rcases H2.out.next hbel with h0 | ⟨g2, rfl, R2⟩
      · subst h0; simp at hlt
      obtain ⟨w1, pa, ca, x1, t1⟩ := R1.cells k hlt
      obtain ⟨w2, pb, cb, x2, t2⟩ := R2.cells k hlt
      have l1 := R1.lt
      have l2 := R2.lt
      have hk1 : (k : Int) < (f.length : Int) := by omega
      have q0 : ∀ u : Under wr, u.x.cell? ⟨g1, k * 2, none⟩ = some (.int .i64 f[k].num) := fun u => (u.h.cell l1).trans w1
      have r0 : ∀ u : Under wr, u.x.cell? ⟨g2, k * 2, none⟩ = some (.int .i64 f[k].num) := fun u => (u.h.cell l2).trans w2
      have q1 : ∀ u : Under wr, u.x.cell? ⟨g1, k * 2 + 1, none⟩ = some (.slice pa f[k].es.length ca) := fun u => (u.h.cell l1).trans x1
      have r1 : ∀ u : Under wr, u.x.cell? ⟨g2, k * 2 + 1, none⟩ = some (.slice pb f[k].es.length cb) := fun u => (u.h.cell l2).trans x2
      have HC : Hid (∀ u : Under wr, Calls _ _ _ u.x _) := fun u => eqPage_same f[k].num pa pb ca cb f[k].es u.x (t1.step u.h) (t2.step u.h) (HS.out f[k] (List.getElem_mem _))
      have hnu : Nonempty (Under wr) := ⟨⟨wr, Below.refl _ _⟩⟩
      clear x1 x2 w1 w2 R1 R2 t1 t2
      go_wp2_with fail
      refine wp_region_under (by kernel_rfl) (by kernel_rfl) ?_
      repeat (go_big_quiet_step ((go_at_call 135; exact calls_under _ (HC.out _))))
      refine wpQuiet_nil ?_
      rintro _ ⟨u, rfl⟩
      go_wp2_with fail
      go_roundw
      case rel => exact ⟨k + 1, by omega, by go_num, hbel.trans (u.h.mono hbel.size)⟩
      case measure => simp [intOf]; omega
    · have hlt2 : ¬ (k : Int) < (f.length : Int) := by omega
      go_wp2_with fail
      go_ret
      exact ⟨rfl, hbel⟩

set_option maxRecDepth 4000 in
set_option maxHeartbeats 1000000 in
theorem eqTree_same (p1 p2 : Option Addr) (c1 c2 : Nat) (f : List Pg) (next : Int) (w : World) (h1 : RowP w p1 f) (h2 : RowP w p2 f) (hlen : f.length ≤ 1048576) (hs : ∀ l ∈ f, l.es.length ≤ 1048576) :
    Calls Try.prog 40 #[.agg #[.slice p1 f.length c1, .int .i64 next], .agg #[.slice p2 f.length c2, .int .i64 next]] w fun e w' => e = .returned (.bool true) ∧ Below w.heap.size w w' := by
  have hb0 : Below w.heap.size w ((w.alloc (.cells #[.slice p1 f.length c1, .int .i64 next] 37)).alloc (.cells #[.slice p2 f.length c2, .int .i64 next] 37)) := ((Below.refl _ _).alloc (Nat.le_refl _) _).alloc (by simp) _
  have n1 : ((w.alloc (.cells #[.slice p1 f.length c1, .int .i64 next] 37)).alloc (.cells #[.slice p2 f.length c2, .int .i64 next] 37)).cell? ⟨w.heap.size, 1, none⟩ = some (.int .i64 next) := by simp [go_sem]
  have n2 : ((w.alloc (.cells #[.slice p1 f.length c1, .int .i64 next] 37)).alloc (.cells #[.slice p2 f.length c2, .int .i64 next] 37)).cell? ⟨w.heap.size + 1, 1, none⟩ = some (.int .i64 next) := by simp [go_sem]
  have HC : Hid (Calls _ _ _ _ _) := eqPageS_same p1 p2 c1 c2 f _ (h1.next hb0) (h2.next hb0) hlen hs
  clear h1 h2
  go_enter Try.func40, Try.ntmps40
  go_wp2_with fail
  refine HC.out.mono ?_
  rintro e w1 ⟨rfl, hb⟩
  have hbw := hb0.trans (hb.mono hb0.size)
  have x1 := (hb.cell (by simp; omega)).trans n1
  have x2 := (hb.cell (by simp)).trans n2
  clear hb HC
  go_wp2_with fail
  go_ret
  exact ⟨rfl, hbw⟩

end Go.Proofs.Ytaohljkmnojiiaa.Tr
