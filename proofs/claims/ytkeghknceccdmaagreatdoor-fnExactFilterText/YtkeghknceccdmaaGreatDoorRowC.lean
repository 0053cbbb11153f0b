/- Rows of clauses, and filters: what the laws' own helpers on them answer. -/
import Derived.Test.YtkeghknceccdmaaGreatDoorRowT
namespace Go.Proofs.YtkeghknceccdmaaGreatDoor
open Go.RowKit
set_option linter.unusedVariables false

theorem infoC : (Tryz.prog.info? 109).map (fun i => (i.zero, i.size, i.bytes)) = some (some (.agg #[.slice none 0 0]), 1, 24) := by kernel_rfl
/-- A row of clauses that stands at a block's head. -/
structure ReadC (w : World) (g : Nat) (f : List (List Trm)) : Prop where
  lt : g < w.heap.size
  cells : ∀ i (h : i < f.length), ∃ p cap, w.cell? ⟨g, i, none⟩ = some (.slice p f[i].length cap) ∧ RowT w p f[i]
theorem ReadC.next {w w' : World} {g : Nat} {f : List (List Trm)} (h : ReadC w g f) (hb : Below w.heap.size w w') : ReadC w' g f :=
  ⟨Nat.lt_of_lt_of_le h.lt hb.size, fun i hi => by
    obtain ⟨p, cap, hc, hr⟩ := h.cells i hi
    exact ⟨p, cap, (hb.cell h.lt).trans hc, hr.next hb⟩⟩
/-- A row of clauses, a nil one too. -/
def RowC (w : World) (p : Option Addr) (f : List (List Trm)) : Prop := f = [] ∨ ∃ g, p = some ⟨g, 0, none⟩ ∧ ReadC w g f
theorem RowC.next {w w' : World} {p : Option Addr} {f : List (List Trm)} (h : RowC w p f) (hb : Below w.heap.size w w') : RowC w' p f := by
  rcases h with h | ⟨g, hp, hr⟩
  · exact .inl h
  · exact .inr ⟨g, hp, hr.next hb⟩
/-- Clauses that came in. -/
def InCl (w : World) (a : Option Addr) (f : List (List Trm)) : Prop := f.length = 0 ∨ ∃ b off, a = some ⟨b, off, none⟩ ∧ b < w.heap.size ∧ ∀ i (h : i < f.length), ∃ p cap, w.cell? ⟨b, off + i, none⟩ = some (.slice p f[i].length cap) ∧ InT w p f[i]
theorem InCl.step {w w' : World} {a : Option Addr} {f : List (List Trm)} (h : InCl w a f) (hb : Below w.heap.size w w') : InCl w' a f := by
  rcases h with h | ⟨b, off, ha, hlt, hc⟩
  · exact .inl h
  · exact .inr ⟨b, off, ha, Nat.lt_of_lt_of_le hlt hb.size, fun i hi => by
      obtain ⟨p, cap, h1, h2⟩ := hc i hi
      exact ⟨p, cap, (hb.cell hlt).trans h1, h2.step hb⟩⟩
def szC (l : List Trm) : Prop := l.length ≤ 1048576 ∧ ∀ v ∈ l, szT v
def maxC (l : List Trm) : Prop := l.length ≤ maxLen ∧ ∀ v ∈ l, maxT v
theorem take_allC (p : List Trm → Prop) (l : List (List Trm)) (k : Nat) (h : k < l.length) (h1 : ∀ v ∈ l.take k, p v) (h2 : p l[k]) : ∀ v ∈ l.take (k + 1), p v := by
  intro v hv
  rw [List.take_succ_eq_append_getElem h] at hv
  rcases List.mem_append.mp hv with hv | hv
  · exact h1 v hv
  · rw [List.mem_singleton.mp hv]; exact h2

set_option maxRecDepth 4000 in
set_option maxHeartbeats 1000000 in
theorem szClause_any (a : Option Addr) (cap : Nat) (l : List Trm) (c0 : Int) (w : World) (hin : InT w a l) (hm : maxC l) (h0 : 0 ≤ c0) (h1 : c0 ≤ 1048576) :
    Calls Tryz.prog 136 #[.agg #[.slice a l.length cap], .int .i64 c0] w fun e w' => (∃ r : Int, e = .returned (.int .i64 r) ∧ (r < 0 ∨ (0 ≤ r ∧ r ≤ c0 ∧ szC l))) ∧ Below w.heap.size w w' := by
  have hb0 : Below w.heap.size w (w.alloc (.cells #[.slice a l.length cap] 181)) := (Below.refl _ _).alloc (Nat.le_refl _) _
  have HC : Hid (Calls _ _ _ _ _) := szTermS_any a cap l c0 (w.alloc (.cells #[.slice a l.length cap] 181)) (hin.step hb0) hm.1 hm.2 h0 h1
  clear hin hm
  go_enter Tryz.func136, Tryz.ntmps136
  go_wp2_with fail
  refine HC.out.mono ?_
  rintro e w1 ⟨⟨r, rfl, hr⟩, hb⟩
  have hb1 := hb0.trans (hb.mono hb0.size)
  clear hb HC
  rcases hr with hneg | ⟨hr0, hr1, hr2, hr3⟩
  · go_wp2_with fail
    go_ret
    exact ⟨⟨-1, rfl, .inl (by omega)⟩, hb1⟩
  · have hnn : ¬ r < 0 := by omega
    have HS : Hid (szC l) := ⟨hr2, hr3⟩
    clear hr2 hr3
    go_wp2_with fail
    go_ret
    exact ⟨⟨r, rfl, .inr ⟨hr0, hr1, HS.out⟩⟩, hb1⟩

set_option maxRecDepth 4000 in
set_option maxHeartbeats 1000000 in
theorem szClauseS_any (a : Option Addr) (cap : Nat) (f : List (List Trm)) (c0 : Int) (w : World) (hin : InCl w a f) (hl : f.length ≤ maxLen) (hs : ∀ l ∈ f, maxC l) (h0 : 0 ≤ c0) (h1 : c0 ≤ 1048576) :
    Calls Tryz.prog 66 #[.slice a f.length cap, .int .i64 c0] w fun e w' => (∃ r : Int, e = .returned (.int .i64 r) ∧ (r < 0 ∨ (0 ≤ r ∧ r ≤ c0 ∧ f.length ≤ 1048576 ∧ ∀ l ∈ f, szC l))) ∧ Below w.heap.size w w' := by
  unfold maxLen at hl
  have HI : Hid (InCl _ _ _) := hin
  have HS : Hid _ := hs
  clear hin hs
  by_cases hbig : c0 < (f.length : Int)
  · have hneg : c0 - (f.length : Int) < 0 := by omega
    go_enter Tryz.func66, Tryz.ntmps66
    go_wp2_with fail
    go_ret
    exact ⟨⟨-1, rfl, .inl (by omega)⟩, Below.refl _ _⟩
  · have hneg : ¬ c0 - (f.length : Int) < 0 := by omega
    go_enter Tryz.func66, Tryz.ntmps66
    go_wp2_with fail
    go_loopw [1, 5] (fun u i wr => ∃ k : Nat, k ≤ f.length ∧ i = .int .i64 k ∧ ∃ c : Int, u = .int .i64 c ∧ 0 ≤ c ∧ c ≤ c0 ∧ (∀ v ∈ f.take k, szC v) ∧ Below w.heap.size w wr) (fun _ i _ => f.length - (intOf i).toNat)
    case atStart => exact ⟨0, Nat.zero_le _, rfl, _, rfl, by omega, by omega, (fun v hv => by simp at hv), Below.refl _ _⟩
    case round =>
      obtain ⟨k, hk, rfl, c, rfl, hc0, hc1, hall, hbel⟩ := hrel
      have HA : Hid _ := hall
      clear hall
      by_cases hlt : k < f.length
      · rcases HI.out.step hbel with h0' | ⟨b, off, rfl, hbl, hcell⟩
        · omega
        · have hlt2 : (k : Int) < (f.length : Int) := by omega
          obtain ⟨p, pc, x0, hT⟩ := hcell k hlt
          have HC : Hid (Calls _ _ _ _ _) := szClause_any p pc f[k] c wr hT (HS.out f[k] (List.getElem_mem _)) hc0 (by omega)
          clear hcell hT
          go_wp2_with fail
          refine HC.out.mono ?_
          rintro e w1 ⟨⟨r, rfl, hr⟩, hb⟩
          have hb1 := hbel.trans (hb.mono hbel.size)
          clear hb HC
          rcases hr with hneg2 | ⟨hr0, hr1, hr2⟩
          · go_wp2_with fail
            go_ret
            exact ⟨⟨-1, rfl, .inl (by omega)⟩, hb1⟩
          · have hnn : ¬ r < 0 := by omega
            have HSZ : Hid (szC f[k]) := hr2
            clear hr2
            go_wp2_with fail
            go_roundw
            case rel => exact ⟨k + 1, by omega, by go_num, r, rfl, by omega, by omega, take_allC _ f k hlt HA.out HSZ.out, hb1⟩
            case measure => simp [intOf]; omega
      · have hlt2 : ¬ (k : Int) < (f.length : Int) := by omega
        go_wp2_with fail
        go_ret
        exact ⟨⟨c, rfl, .inr ⟨hc0, hc1, by omega, by have := HA.out; rw [List.take_of_length_le (by omega)] at this; exact this⟩⟩, hbel⟩
set_option maxRecDepth 4000 in
set_option maxHeartbeats 1000000 in
theorem szFilter_any (a : Option Addr) (cap : Nat) (f : List (List Trm)) (c0 : Int) (w : World) (hin : InCl w a f) (hl : f.length ≤ maxLen) (hs : ∀ l ∈ f, maxC l) (h0 : 0 ≤ c0) (h1 : c0 ≤ 1048576) :
    Calls Tryz.prog 21 #[.agg #[.slice a f.length cap], .int .i64 c0] w fun e w' => (∃ r : Int, e = .returned (.int .i64 r) ∧ (r < 0 ∨ (0 ≤ r ∧ r ≤ c0 ∧ f.length ≤ 1048576 ∧ ∀ l ∈ f, szC l))) ∧ Below w.heap.size w w' := by
  have hb0 : Below w.heap.size w (w.alloc (.cells #[.slice a f.length cap] 48)) := (Below.refl _ _).alloc (Nat.le_refl _) _
  have HC : Hid (Calls _ _ _ _ _) := szClauseS_any a cap f c0 (w.alloc (.cells #[.slice a f.length cap] 48)) (hin.step hb0) hl hs h0 h1
  clear hin hs
  go_enter Tryz.func21, Tryz.ntmps21
  go_wp2_with fail
  refine HC.out.mono ?_
  rintro e w1 ⟨⟨r, rfl, hr⟩, hb⟩
  have hb1 := hb0.trans (hb.mono hb0.size)
  clear hb HC
  rcases hr with hneg | ⟨hr0, hr1, hr2, hr3⟩
  · go_wp2_with fail
    go_ret
    exact ⟨⟨-1, rfl, .inl (by omega)⟩, hb1⟩
  · have hnn : ¬ r < 0 := by omega
    have HS : Hid (∀ l ∈ f, szC l) := hr3
    clear hr3
    go_wp2_with fail
    go_ret
    exact ⟨⟨r, rfl, .inr ⟨hr0, hr1, hr2, HS.out⟩⟩, hb1⟩

theorem grown_setC {w : World} {g o : Nat} {v : Value} : w.grownBy (w.setCell ⟨g, o, none⟩ v) (some g) := by
  refine ⟨rfl, rfl, rfl, by simp [World.setCell], ?_⟩
  intro k hk hne
  have : g ≠ k := fun e => hne (by rw [e])
  simp [World.setCell, Array.getElem?_modify, this]
set_option maxRecDepth 4000 in
set_option maxHeartbeats 1000000 in
theorem toClause_any (a : Option Addr) (cap : Nat) (l : List Trm) (w : World) (hin : InT w a l) (hlen : l.length ≤ 1048576) :
    Calls Tryz.prog 140 #[.agg #[.slice a l.length cap]] w fun e w' => (∃ g, e = .returned (.agg #[.slice (some ⟨g, 0, none⟩) l.length l.length]) ∧ w.heap.size ≤ g ∧ ReadT w' g l) ∧ Below w.heap.size w w' := by
  have hb0 : Below w.heap.size w (((w.alloc (.cells #[.slice a l.length cap] 181)).alloc (.cells #[.slice none 0 0] 109)).alloc (.cells #[.slice none 0 0] 109)) := (((Below.refl _ _).alloc (Nat.le_refl _) _).alloc (by simp) _).alloc (by simp; omega) _
  have HC : Hid (Calls _ _ _ _ _) := toTermS_any a cap l _ (hin.step hb0) hlen
  clear hin
  go_enter Tryz.func140, Tryz.ntmps140
  go_wp2_with fail
  refine HC.out.mono ?_
  rintro e w1 ⟨⟨g, rfl, hg, hR⟩, hb⟩
  obtain ⟨hc, hf⟩ := bcell hb
  have hz : w.heap.size + 2 < w1.heap.size := by have := hb.size; simp at this; omega
  have hbw : Below w.heap.size w w1 := hb0.trans (hb.mono (by simp; omega))
  simp at hg
  have HR : Hid (ReadT _ _ _) := hR
  clear hb HC hR hb0
  go_wp2_with fail
  refine bodyPost_ret (v := .agg #[.slice (some ⟨g, 0, none⟩) l.length l.length]) (by simp [results, Tryz.results140, go_sem, *]) rfl ⟨⟨g, rfl, by omega, ?_⟩, ?_⟩
  · exact (HR.out.grown grown_setC (fun e => by injection e; omega)).grown grown_setC (fun e => by injection e; omega)
  · (repeat (first | (with_reducible exact Below.refl _ _) | (with_reducible assumption) | (with_reducible apply below_drewN) | (with_reducible apply Below.drew) | ((with_reducible refine Below.setCell ?_ ?_ _); rotate_left; focus (first | (simp; done) | (simp; omega) | omega)) | ((with_reducible refine Below.alloc ?_ ?_ _); rotate_left; focus (first | (simp; done) | (simp; omega) | omega))))

theorem own_thereC {w : World} {base g c n : Nat} {e : TypeId} {xs : List Value} (h : w.ownsRow base e 1 (.slice (some ⟨g, 0, none⟩) n c) n xs) (j : Nat) (hj : j < n) : ∃ u, w.cell? ⟨g, j, none⟩ = some u := by
  have := World.ownsRow.cellAt h j (by omega)
  rw [this]
  exact ⟨_, List.getElem?_eq_getElem (by have := h.1; omega)⟩
/-- A row of clauses made anew, all of it from block number base on. -/
structure MadeC (w : World) (base g : Nat) (f : List (List Trm)) : Prop where
  ge : base ≤ g
  lt : g < w.heap.size
  cells : ∀ i (h : i < f.length), ∃ gi cap, w.cell? ⟨g, i, none⟩ = some (.slice (some ⟨gi, 0, none⟩) f[i].length cap) ∧ base ≤ gi ∧ ReadT w gi f[i]
theorem MadeC.read {w : World} {base g : Nat} {f : List (List Trm)} (h : MadeC w base g f) : ReadC w g f :=
  ⟨h.lt, fun i hi => by
    obtain ⟨gi, cap, h1, _, h3⟩ := h.cells i hi
    exact ⟨_, cap, h1, .inr ⟨gi, rfl, h3⟩⟩⟩
theorem MadeC.set {w : World} {base g b o : Nat} {v : Value} {f : List (List Trm)} (h : MadeC w base g f) (hb : b < base) : MadeC (w.setCell ⟨b, o, none⟩ v) base g f :=
  ⟨h.ge, by simpa [World.setCell] using h.lt, fun i hi => by
    obtain ⟨gi, cap, h1, h2, h3⟩ := h.cells i hi
    have hg : w.grownBy (w.setCell ⟨b, o, none⟩ v) (some b) := grown_setC
    refine ⟨gi, cap, ?_, h2, h3.grown hg (fun e => by injection e; omega)⟩
    have := h.ge
    exact (World.cell?_of_block (hg.block g h.lt (fun e => by injection e; omega))).trans h1⟩
/-- Which clauses stand already at their places. -/
def partC (w : World) (base : Nat) (xs : List Value) (f : List (List Trm)) (k : Nat) : Prop := ∀ i (h : i < f.length), i < k → ∃ g cap, xs[i]? = some (.slice (some ⟨g, 0, none⟩) f[i].length cap) ∧ base < g ∧ ReadT w g f[i]
theorem made_zeroC (n : Nat) : (madeCells (Value.agg #[.slice none 0 0]).cells (n * 1)).toList.length = n := by simp [madeCells]
theorem flatC_one {w : World} {base : Nat} {xs : List Value} {n : Nat} {v : Value} (h : w.ownsRow base 109 1 v n xs) : xs.length = n := by have := h.1; omega
set_option maxRecDepth 4000 in
set_option maxHeartbeats 1000000 in
theorem toClauseS_any (a : Option Addr) (cap : Nat) (f : List (List Trm)) (w : World) (hin : InCl w a f) (hlen : f.length ≤ 1048576) (hs : ∀ l ∈ f, l.length ≤ 1048576) :
    Calls Tryz.prog 69 #[.slice a f.length cap] w fun e w' => (∃ g, e = .returned (.slice (some ⟨g, 0, none⟩) f.length f.length) ∧ MadeC w' w.heap.size g f) ∧ Below w.heap.size w w' := by
  obtain ⟨i0, hi, hz0, hz1, hz2⟩ := info_parts infoC
  have HI : Hid (InCl _ _ _) := hin
  have HS : Hid _ := hs
  clear hin hs
  go_enter Tryz.func69, Tryz.ntmps69
  go_wp2_with (refine wpList_make_full _ rfl (.tmp 6) (.tmp 6) 51 rfl w.heap.size 109 i0 (.agg #[.slice none 0 0]) 1 Tryz.underlying51 hi hz0 hz1 .i64 .i64 _ _ f.length rfl rfl rfl rfl (by rw [hz2]; omega) (by unfold maxLen; omega) (Nat.le_refl _) ?_; intro w1 hown1 hgrow1)
  have hb1 : Below w.heap.size w w1 := Below.grown (Below.refl _ _) hgrow1 (Nat.le_refl _) (fun k h => by cases h)
  clear hgrow1
  go_loopw [4] (fun i wr => ∃ (k : Nat) (xs : List Value), k ≤ f.length ∧ i = .int .i64 k ∧ wr.ownsRow w.heap.size 109 1 (.slice (some ⟨w.heap.size, 0, none⟩) f.length f.length) f.length xs ∧ partC wr w.heap.size xs f k ∧ Below w.heap.size w wr) (fun i _ => f.length - (intOf i).toNat)
  case atStart => exact ⟨0, _, Nat.zero_le _, rfl, hown1, fun i h hi => absurd hi (by omega), hb1⟩
  case round =>
    obtain ⟨k, xs, hk, rfl, hown, hpart, hbel⟩ := hrel
    clear hown1 hb1
    by_cases hlt : k < f.length
    · rcases HI.out.step hbel with h0 | ⟨b, off, rfl, hbl, hc⟩
      · omega
      · have hlt2 : (k : Int) < (f.length : Int) := by omega
        obtain ⟨p, pc, x0, hT⟩ := hc k hlt
        have HC : Hid (Calls _ _ _ _ _) := toClause_any p pc f[k] wr hT (HS.out f[k] (List.getElem_mem _))
        have hz := hbel.size
        have HO : Hid (World.ownsRow _ _ _ _ _ _ _) := hown
        have HP : Hid (partC _ _ _ _ _) := hpart
        have HB : Hid _ := hbel
        have hgl : w.heap.size < wr.heap.size := (hown.lt _ rfl).2
        clear hc hown hbel hT hpart
        go_wp2_with fail
        refine HC.out.mono ?_
        rintro e w2 ⟨⟨g2, rfl, hg2, hR2⟩, hb2⟩
        have hown2 := owns_below HO.out hb2
        have hxl := flatC_one hown2
        obtain ⟨z0, y0⟩ := own_thereC hown2 k (by omega)
        have f0 := World.ownsRow.frozenAt hown2 k
        have hst := (World.ownsRow.stored hown2 k (.slice (some ⟨g2, 0, none⟩) f[k].length f[k].length)).1
        have hpart2 : partC (w2.setCell ⟨w.heap.size, k, none⟩ (.slice (some ⟨g2, 0, none⟩) f[k].length f[k].length)) w.heap.size (xs.set k (.slice (some ⟨g2, 0, none⟩) f[k].length f[k].length)) f (k + 1) := by
          intro i h hi
          by_cases hik : i = k
          · subst hik
            exact ⟨g2, f[i].length, by rw [List.getElem?_set_self (by omega)], by omega, hR2.grown grown_setC (fun e => by injection e; omega)⟩
          · obtain ⟨g, c, e1, e2, e3⟩ := HP.out i h (by omega)
            exact ⟨g, c, by rw [List.getElem?_set_ne (fun e => hik e.symm)]; exact e1, e2, (e3.next hb2).grown grown_setC (fun e => by injection e; omega)⟩
        have HST : Hid (World.ownsRow _ _ _ _ _ _ _) := hst
        have HPA : Hid (partC _ _ _ _ _) := hpart2
        have HB2 : Hid _ := HB.out.trans (hb2.mono HB.out.size)
        have hz2 := hb2.size
        clear hst hown2 hb2 hpart2 hR2 HC
        go_wp2_with fail
        go_roundw
        case rel => exact ⟨k + 1, _, by omega, by go_num, HST.out, HPA.out, HB2.out.setCell (Nat.le_refl _) _⟩
        case measure => simp [intOf]; omega
    · have hlt2 : ¬ (k : Int) < (f.length : Int) := by omega
      have hR : MadeC wr w.heap.size w.heap.size f := ⟨Nat.le_refl _, (hown.lt _ rfl).2, fun i hi => by
        obtain ⟨g, c, e1, e2, e3⟩ := hpart i hi (by omega)
        exact ⟨g, c, owns_cell hown i _ e1, by omega, e3⟩⟩
      have HR : Hid (MadeC _ _ _ _) := hR
      clear hR hpart hown
      go_wp2_with fail
      go_ret
      exact ⟨⟨w.heap.size, rfl, HR.out⟩, hbel⟩

set_option maxRecDepth 4000 in
set_option maxHeartbeats 1000000 in
theorem toFilter_any (a : Option Addr) (cap : Nat) (f : List (List Trm)) (w : World) (hin : InCl w a f) (hlen : f.length ≤ 1048576) (hs : ∀ l ∈ f, l.length ≤ 1048576) :
    Calls Tryz.prog 23 #[.agg #[.slice a f.length cap]] w fun e w' => (∃ g, e = .returned (.agg #[.slice (some ⟨g, 0, none⟩) f.length f.length]) ∧ ReadC w' g f) ∧ Below w.heap.size w w' := by
  have hb0 : Below w.heap.size w (((w.alloc (.cells #[.slice a f.length cap] 48)).alloc (.cells #[.slice none 0 0] 53)).alloc (.cells #[.slice none 0 0] 53)) := (((Below.refl _ _).alloc (Nat.le_refl _) _).alloc (by simp) _).alloc (by simp; omega) _
  have HC : Hid (Calls _ _ _ _ _) := toClauseS_any a cap f _ (hin.step hb0) hlen hs
  clear hin hs
  go_enter Tryz.func23, Tryz.ntmps23
  go_wp2_with fail
  refine HC.out.mono ?_
  rintro e w1 ⟨⟨g, rfl, hR⟩, hb⟩
  obtain ⟨hc, hf⟩ := bcell hb
  have hz : w.heap.size + 2 < w1.heap.size := by have := hb.size; simp at this; omega
  have hbw : Below w.heap.size w w1 := hb0.trans (hb.mono (by simp; omega))
  simp at hR
  have HR : Hid (MadeC _ _ _ _) := hR
  clear hb HC hR hb0
  go_wp2_with fail
  refine bodyPost_ret (v := .agg #[.slice (some ⟨g, 0, none⟩) f.length f.length]) (by simp [results, Tryz.results23, go_sem, *]) rfl ⟨⟨g, rfl, ?_⟩, ?_⟩
  · exact ((HR.out.set (by omega)).set (by omega)).read
  · (repeat (first | (with_reducible exact Below.refl _ _) | (with_reducible assumption) | (with_reducible apply below_drewN) | (with_reducible apply Below.drew) | ((with_reducible refine Below.setCell ?_ ?_ _); rotate_left; focus (first | (simp; done) | (simp; omega) | omega)) | ((with_reducible refine Below.alloc ?_ ?_ _); rotate_left; focus (first | (simp; done) | (simp; omega) | omega))))

end Go.Proofs.YtkeghknceccdmaaGreatDoor
