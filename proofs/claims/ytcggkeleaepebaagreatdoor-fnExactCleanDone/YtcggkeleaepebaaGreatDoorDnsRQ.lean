/- Rows of committed ones: what the laws' own helpers on them answer. -/
import Derived.Test.YtcggkeleaepebaaGreatDoorTwcIQ
import Derived.Test.YtcggkeleaepebaaGreatDoorFiltMQ
import Derived.Test.YtcggkeleaepebaaGreatDoorTrMQ
namespace Go.Proofs.YtcggkeleaepebaaGreatDoor.Ce
open Go.RowKit Go.ChangeShapes Go.WideShapes Go.ChangeAt Go.Joins Tr Co Rea
set_option linter.unusedVariables false

/-- A committed one. -/
structure Dn where
  sn : Int
  at_ : Int
  rs : List Rdg
  cs : List Cgr
  di : Bool
  do_ : Bool
theorem infoDn : (Tryz.prog.info? 36).map (fun i => (i.zero, i.size, i.bytes)) = some (some (.agg #[.int .i64 0, .int .i64 0, .slice none 0 0, .slice none 0 0, .bool false, .bool false]), 6, 72) := by kernel_rfl
/-- Those that came in. -/
def InDn (w : World) (a : Option Addr) (l : List Dn) : Prop := l.length = 0 ∨ ∃ b off, a = some ⟨b, off, none⟩ ∧ b < w.heap.size ∧ ∀ i (h : i < l.length), ∃ p cp q cq, (w.cell? ⟨b, off + i * 6, none⟩ = some (.int .i64 l[i].sn) ∧ w.cell? ⟨b, off + i * 6 + 1, none⟩ = some (.int .i64 l[i].at_) ∧ w.cell? ⟨b, off + i * 6 + 2, none⟩ = some (.slice p l[i].rs.length cp) ∧ w.cell? ⟨b, off + i * 6 + 3, none⟩ = some (.slice q l[i].cs.length cq) ∧ w.cell? ⟨b, off + i * 6 + 4, none⟩ = some (.bool l[i].di) ∧ w.cell? ⟨b, off + i * 6 + 5, none⟩ = some (.bool l[i].do_)) ∧ InRd w p l[i].rs ∧ InCg w q l[i].cs
theorem InDn.step {w w' : World} {a : Option Addr} {l : List Dn} (h : InDn w a l) (hb : Below w.heap.size w w') : InDn w' a l := by
  rcases h with h | ⟨b, off, ha, hlt, hc⟩
  · exact .inl h
  · exact .inr ⟨b, off, ha, Nat.lt_of_lt_of_le hlt hb.size, fun i hi => by
      obtain ⟨p, cp, q, cq, ⟨x0, x1, x2, x3, x4, x5⟩, y, z⟩ := hc i hi
      exact ⟨p, cp, q, cq, ⟨(hb.cell hlt).trans x0, (hb.cell hlt).trans x1, (hb.cell hlt).trans x2, (hb.cell hlt).trans x3, (hb.cell hlt).trans x4, (hb.cell hlt).trans x5⟩, y.step hb, z.step hb⟩⟩
/-- A row of them made anew. -/
structure MadeDn (w : World) (base g : Nat) (l : List Dn) : Prop where
  ge : base ≤ g
  lt : g < w.heap.size
  cells : ∀ i (h : i < l.length), ∃ gr gc, (w.cell? ⟨g, i * 6, none⟩ = some (.int .i64 l[i].sn) ∧ w.cell? ⟨g, i * 6 + 1, none⟩ = some (.int .i64 l[i].at_) ∧ w.cell? ⟨g, i * 6 + 2, none⟩ = some (.slice (some ⟨gr, 0, none⟩) l[i].rs.length l[i].rs.length) ∧ w.cell? ⟨g, i * 6 + 3, none⟩ = some (.slice (some ⟨gc, 0, none⟩) l[i].cs.length l[i].cs.length) ∧ w.cell? ⟨g, i * 6 + 4, none⟩ = some (.bool l[i].di) ∧ w.cell? ⟨g, i * 6 + 5, none⟩ = some (.bool l[i].do_)) ∧ MadeRd w base gr l[i].rs ∧ ReadCg w gc l[i].cs ∧ base ≤ gc
theorem MadeDn.next {w w' : World} {base g : Nat} {l : List Dn} (h : MadeDn w base g l) (hb : Below w.heap.size w w') : MadeDn w' base g l :=
  ⟨h.ge, Nat.lt_of_lt_of_le h.lt hb.size, fun i hi => by
    obtain ⟨gr, gc, ⟨x0, x1, x2, x3, x4, x5⟩, y, z, u⟩ := h.cells i hi
    exact ⟨gr, gc, ⟨(hb.cell h.lt).trans x0, (hb.cell h.lt).trans x1, (hb.cell h.lt).trans x2, (hb.cell h.lt).trans x3, (hb.cell h.lt).trans x4, (hb.cell h.lt).trans x5⟩, y.next hb, z.next hb, u⟩⟩
theorem MadeDn.mono {w : World} {base base' g : Nat} {l : List Dn} (h : MadeDn w base g l) (hb : base' ≤ base) : MadeDn w base' g l :=
  ⟨Nat.le_trans hb h.ge, h.lt, fun i hi => by
    obtain ⟨gr, gc, x, y, z, u⟩ := h.cells i hi
    exact ⟨gr, gc, x, y.mono hb, z, Nat.le_trans hb u⟩⟩
theorem madeDn_kc {W W' : World} {b g : Nat} {l : List Dn} (h : MadeDn W b g l) (hk : Kc W W') : MadeDn W' b g l :=
  ⟨h.ge, Nat.lt_of_lt_of_le h.lt hk.size, fun i hi => by
    obtain ⟨gr, gc, ⟨x0, x1, x2, x3, x4, x5⟩, y, z, u⟩ := h.cells i hi
    exact ⟨gr, gc, ⟨hk.cell _ _ _ x0, hk.cell _ _ _ x1, hk.cell _ _ _ x2, hk.cell _ _ _ x3, hk.cell _ _ _ x4, hk.cell _ _ _ x5⟩, madeRd_kc y hk, readCg_kc z hk, u⟩⟩
def szDn (x : Dn) : Prop := SzDn x.rs x.cs
def maxDn (x : Dn) : Prop := MaxDn x.rs x.cs
theorem take_allDn (p : Dn → Prop) (l : List Dn) (k : Nat) (h : k < l.length) (h1 : ∀ v ∈ l.take k, p v) (h2 : p l[k]) : ∀ v ∈ l.take (k + 1), p v := by
  intro v hv
  rw [List.take_succ_eq_append_getElem h] at hv
  rcases List.mem_append.1 hv with hv | hv
  · exact h1 v hv
  · simp at hv; subst hv; exact h2
set_option maxRecDepth 4000 in
set_option maxHeartbeats 1000000 in
theorem szDoneS_any (a : Option Addr) (cap : Nat) (l : List Dn) (c0 : Int) (w : World) (hin : InDn w a l) (hl : l.length ≤ maxLen) (hs : ∀ v ∈ l, maxDn v) (h0 : 0 ≤ c0) (h1 : c0 ≤ 1048576) :
    Calls Tryz.prog 5 #[.slice a l.length cap, .int .i64 c0] w fun e w' => (∃ r : Int, e = .returned (.int .i64 r) ∧ (r < 0 ∨ (0 ≤ r ∧ r ≤ c0 ∧ l.length ≤ 1048576 ∧ ∀ v ∈ l, szDn v))) ∧ Below w.heap.size w w' := by
  unfold maxLen at hl
  have HI : Hid (InDn _ _ _) := hin
  have HS : Hid (∀ v ∈ l, maxDn v) := hs
  clear hin hs
  by_cases hbig : c0 < (l.length : Int)
  · have hneg : c0 - (l.length : Int) < 0 := by omega
    go_enter Tryz.func5, Tryz.ntmps5
    go_wp2_with fail
    go_ret
    exact ⟨⟨-1, rfl, .inl (by omega)⟩, Below.refl _ _⟩
  · have hneg : ¬ c0 - (l.length : Int) < 0 := by omega
    go_enter Tryz.func5, Tryz.ntmps5
    go_wp2_with fail
    go_loopw [1, 5] (fun u i wr => ∃ k : Nat, k ≤ l.length ∧ i = .int .i64 k ∧ ∃ c : Int, u = .int .i64 c ∧ 0 ≤ c ∧ c ≤ c0 ∧ (∀ v ∈ l.take k, szDn v) ∧ Below w.heap.size w wr) (fun _ i _ => l.length - (intOf i).toNat)
    case atStart => exact ⟨0, Nat.zero_le _, rfl, _, rfl, by omega, by omega, (fun v hv => by simp at hv), Below.refl _ _⟩
    case round =>
      obtain ⟨k, hk, rfl, c, rfl, hc0, hc1, hall, hbel⟩ := hrel
      have HA : Hid (∀ v ∈ l.take k, szDn v) := hall
      clear hall
      by_cases hlt : k < l.length
      · rcases HI.out.step hbel with h0' | ⟨b, off, rfl, hbl, hcell⟩
        · omega
        · have hlt2 : (k : Int) < (l.length : Int) := by omega
          obtain ⟨p, cp, q, cq, ⟨x0, x1, x2, x3, x4, x5⟩, hT, hU⟩ := hcell k hlt
          have HC : Hid (Calls _ _ _ _ _) := szDone_any l[k].sn l[k].at_ p q cp cq l[k].di l[k].do_ l[k].rs l[k].cs c wr hT hU (HS.out l[k] (List.getElem_mem _)) hc0 (by omega)
          clear hcell hT hU
          go_wp2_with fail
          refine HC.out.mono ?_
          rintro e w1 ⟨⟨r, rfl, hr⟩, hb⟩
          have hb1 := hbel.trans (hb.mono hbel.size)
          clear hb HC
          rcases hr with hneg2 | ⟨hr0, hr1, hr2⟩
          · go_wp2_with fail
            go_ret
            exact ⟨⟨-1, rfl, .inl (by omega)⟩, hb1⟩
          · have hnn : ¬ r < 0 := by omega
            have HSZ : Hid (szDn l[k]) := hr2
            clear hr2
            go_wp2_with fail
            go_roundw
            case rel => exact ⟨k + 1, by omega, by go_num, r, rfl, by omega, by omega, take_allDn _ l k hlt HA.out HSZ.out, hb1⟩
            case measure => simp [intOf]; omega
      · have hlt2 : ¬ (k : Int) < (l.length : Int) := by omega
        go_wp2_with fail
        go_ret
        exact ⟨⟨c, rfl, .inr ⟨hc0, hc1, by omega, by have := HA.out; rw [List.take_of_length_le (by omega)] at this; exact this⟩⟩, hbel⟩
/-- Which of them stand already at their places. -/
def partDn (w : World) (base : Nat) (xs : List Value) (l : List Dn) (k : Nat) : Prop := ∀ i (h : i < l.length), i < k → ∃ gr gc, (xs[i * 6]? = some (.int .i64 l[i].sn) ∧ xs[i * 6 + 1]? = some (.int .i64 l[i].at_) ∧ xs[i * 6 + 2]? = some (.slice (some ⟨gr, 0, none⟩) l[i].rs.length l[i].rs.length) ∧ xs[i * 6 + 3]? = some (.slice (some ⟨gc, 0, none⟩) l[i].cs.length l[i].cs.length) ∧ xs[i * 6 + 4]? = some (.bool l[i].di) ∧ xs[i * 6 + 5]? = some (.bool l[i].do_)) ∧ MadeRd w (base + 1) gr l[i].rs ∧ ReadCg w gc l[i].cs ∧ base + 1 ≤ gc
set_option maxRecDepth 8000 in
set_option maxHeartbeats 4000000 in
theorem toDoneS_any (a : Option Addr) (cap : Nat) (l : List Dn) (w : World) (hin : InDn w a l) (hlen : l.length ≤ 1048576) (hs : ∀ v ∈ l, szDn v) :
    Calls Tryz.prog 8 #[.slice a l.length cap] w fun e w' => (∃ g, e = .returned (.slice (some ⟨g, 0, none⟩) l.length l.length) ∧ MadeDn w' w.heap.size g l) ∧ Below w.heap.size w w' := by
  obtain ⟨i0, hi, hz0, hz1, hz2⟩ := info_parts infoDn
  have HI : Hid (InDn _ _ _) := hin
  have HS : Hid (∀ v ∈ l, szDn v) := hs
  clear hin hs
  go_enter Tryz.func8, Tryz.ntmps8
  go_wp2_with (refine wpList_make_full _ rfl (.tmp 6) (.tmp 6) 29 rfl w.heap.size 36 i0 (.agg #[.int .i64 0, .int .i64 0, .slice none 0 0, .slice none 0 0, .bool false, .bool false]) 6 Tryz.underlying29 hi hz0 hz1 .i64 .i64 _ _ l.length rfl rfl rfl rfl (by rw [hz2]; omega) (by unfold maxLen; omega) (Nat.le_refl _) ?_; intro w1 hown1 hgrow1)
  have hb1 : Below w.heap.size w w1 := Below.grown (Below.refl _ _) hgrow1 (Nat.le_refl _) (fun k h => by cases h)
  clear hgrow1
  go_loopw [4] (fun i wr => ∃ (k : Nat) (xs : List Value), k ≤ l.length ∧ i = .int .i64 k ∧ wr.ownsRow w.heap.size 36 6 (.slice (some ⟨w.heap.size, 0, none⟩) l.length l.length) l.length xs ∧ partDn wr w.heap.size xs l k ∧ Below w.heap.size w wr) (fun i _ => l.length - (intOf i).toNat)
  case atStart => exact ⟨0, _, Nat.zero_le _, rfl, hown1, fun i h hi => absurd hi (by omega), hb1⟩
  case round =>
    obtain ⟨k, xs, hk, rfl, hown, hpart, hbel⟩ := hrel
    clear hown1 hb1
    by_cases hlt : k < l.length
    · rcases HI.out.step hbel with h0 | ⟨b, off, rfl, hbl, hc⟩
      · omega
      · have hlt2 : (k : Int) < (l.length : Int) := by omega
        obtain ⟨p, cp, q, cq, ⟨x0, x1, x2, x3, x4, x5⟩, hT, hU⟩ := hc k hlt
        have hsk := HS.out l[k] (List.getElem_mem _)
        obtain ⟨x, hx⟩ : ∃ x, x = l[k] := ⟨_, rfl⟩
        have HX : Hid (x = l[k]) := hx
        rw [← hx] at x0 x1 x2 x3 x4 x5 hT hU hsk
        have HC : Hid (Calls _ _ _ _ _) := toDone_any x.sn x.at_ p q cp cq x.di x.do_ x.rs x.cs wr hT hU hsk
        have hz := hbel.size
        have HO : Hid (World.ownsRow _ _ _ _ _ _ _) := hown
        have HP : Hid (partDn _ _ _ _ _) := hpart
        have HB : Hid (Below _ _ _) := hbel
        have hgl : w.heap.size < wr.heap.size := (hown.lt _ rfl).2
        clear hc hown hbel hT hU hpart hx hsk
        go_wp2_with fail
        refine HC.out.mono ?_
        rintro e w2 ⟨⟨gr, gc, rfl, hR2, hR3, hR4⟩, hb2⟩
        have hown2 := owns_below HO.out hb2
        have hxl : xs.length = l.length * 6 := hown2.1
        obtain ⟨z0, y0⟩ := Tr.own_there hown2 (k * 6) (by omega)
        obtain ⟨z1, y1⟩ := Tr.own_there hown2 (k * 6 + 1) (by omega)
        obtain ⟨z2, y2⟩ := Tr.own_there hown2 (k * 6 + 2) (by omega)
        obtain ⟨z3, y3⟩ := Tr.own_there hown2 (k * 6 + 3) (by omega)
        obtain ⟨z4, y4⟩ := Tr.own_there hown2 (k * 6 + 4) (by omega)
        obtain ⟨z5, y5⟩ := Tr.own_there hown2 (k * 6 + 5) (by omega)
        have f0 := World.ownsRow.frozenAt hown2 (k * 6)
        have f1 := World.ownsRow.frozenAt hown2 (k * 6 + 1)
        have f2 := World.ownsRow.frozenAt hown2 (k * 6 + 2)
        have f3 := World.ownsRow.frozenAt hown2 (k * 6 + 3)
        have f4 := World.ownsRow.frozenAt hown2 (k * 6 + 4)
        have f5 := World.ownsRow.frozenAt hown2 (k * 6 + 5)
        have hst := (World.ownsRow.stored (World.ownsRow.stored (World.ownsRow.stored (World.ownsRow.stored (World.ownsRow.stored (World.ownsRow.stored hown2 (k * 6) (.int .i64 x.sn)).1 (k * 6 + 1) (.int .i64 x.at_)).1 (k * 6 + 2) (.slice (some ⟨gr, 0, none⟩) x.rs.length x.rs.length)).1 (k * 6 + 3) (.slice (some ⟨gc, 0, none⟩) x.cs.length x.cs.length)).1 (k * 6 + 4) (.bool x.di)).1 (k * 6 + 5) (.bool x.do_)).1
        have hpart2 : partDn ((((((w2.setCell ⟨w.heap.size, k * 6, none⟩ (.int .i64 x.sn)).setCell ⟨w.heap.size, k * 6 + 1, none⟩ (.int .i64 x.at_)).setCell ⟨w.heap.size, k * 6 + 2, none⟩ (.slice (some ⟨gr, 0, none⟩) x.rs.length x.rs.length)).setCell ⟨w.heap.size, k * 6 + 3, none⟩ (.slice (some ⟨gc, 0, none⟩) x.cs.length x.cs.length)).setCell ⟨w.heap.size, k * 6 + 4, none⟩ (.bool x.di)).setCell ⟨w.heap.size, k * 6 + 5, none⟩ (.bool x.do_)) w.heap.size ((((((xs.set (k * 6) (.int .i64 x.sn)).set (k * 6 + 1) (.int .i64 x.at_)).set (k * 6 + 2) (.slice (some ⟨gr, 0, none⟩) x.rs.length x.rs.length)).set (k * 6 + 3) (.slice (some ⟨gc, 0, none⟩) x.cs.length x.cs.length)).set (k * 6 + 4) (.bool x.di)).set (k * 6 + 5) (.bool x.do_)) l (k + 1) := by
          intro i h hi
          by_cases hik : i = k
          · subst hik
            have hxx := HX.out
            subst hxx
            refine ⟨gr, gc, ⟨by rw [List.getElem?_set_ne (by omega), List.getElem?_set_ne (by omega), List.getElem?_set_ne (by omega), List.getElem?_set_ne (by omega), List.getElem?_set_ne (by omega), List.getElem?_set_self (by first | (simp only [List.length_set]; omega) | omega)], by rw [List.getElem?_set_ne (by omega), List.getElem?_set_ne (by omega), List.getElem?_set_ne (by omega), List.getElem?_set_ne (by omega), List.getElem?_set_self (by first | (simp only [List.length_set]; omega) | omega)], by rw [List.getElem?_set_ne (by omega), List.getElem?_set_ne (by omega), List.getElem?_set_ne (by omega), List.getElem?_set_self (by first | (simp only [List.length_set]; omega) | omega)], by rw [List.getElem?_set_ne (by omega), List.getElem?_set_ne (by omega), List.getElem?_set_self (by first | (simp only [List.length_set]; omega) | omega)], by rw [List.getElem?_set_ne (by omega), List.getElem?_set_self (by first | (simp only [List.length_set]; omega) | omega)], by rw [List.getElem?_set_self (by first | (simp only [List.length_set]; omega) | omega)]⟩, ?_, ?_, by omega⟩
            · exact (((((((hR2.mono (by omega)).set (by omega)).set (by omega)).set (by omega)).set (by omega)).set (by omega)).set (by omega))
            · exact (readCg_set (readCg_set (readCg_set (readCg_set (readCg_set (readCg_set (hR3) (by omega)) (by omega)) (by omega)) (by omega)) (by omega)) (by omega))
          · obtain ⟨er, ec, ⟨e0, e1, e2, e3, e4, e5⟩, e6, e7, e8⟩ := HP.out i h (by omega)
            refine ⟨er, ec, ⟨by rw [List.getElem?_set_ne (by omega), List.getElem?_set_ne (by omega), List.getElem?_set_ne (by omega), List.getElem?_set_ne (by omega), List.getElem?_set_ne (by omega), List.getElem?_set_ne (by omega)]; exact e0, by rw [List.getElem?_set_ne (by omega), List.getElem?_set_ne (by omega), List.getElem?_set_ne (by omega), List.getElem?_set_ne (by omega), List.getElem?_set_ne (by omega), List.getElem?_set_ne (by omega)]; exact e1, by rw [List.getElem?_set_ne (by omega), List.getElem?_set_ne (by omega), List.getElem?_set_ne (by omega), List.getElem?_set_ne (by omega), List.getElem?_set_ne (by omega), List.getElem?_set_ne (by omega)]; exact e2, by rw [List.getElem?_set_ne (by omega), List.getElem?_set_ne (by omega), List.getElem?_set_ne (by omega), List.getElem?_set_ne (by omega), List.getElem?_set_ne (by omega), List.getElem?_set_ne (by omega)]; exact e3, by rw [List.getElem?_set_ne (by omega), List.getElem?_set_ne (by omega), List.getElem?_set_ne (by omega), List.getElem?_set_ne (by omega), List.getElem?_set_ne (by omega), List.getElem?_set_ne (by omega)]; exact e4, by rw [List.getElem?_set_ne (by omega), List.getElem?_set_ne (by omega), List.getElem?_set_ne (by omega), List.getElem?_set_ne (by omega), List.getElem?_set_ne (by omega), List.getElem?_set_ne (by omega)]; exact e5⟩, ?_, ?_, e8⟩
            · exact (((((((e6.next hb2).set (by omega)).set (by omega)).set (by omega)).set (by omega)).set (by omega)).set (by omega))
            · exact (readCg_set (readCg_set (readCg_set (readCg_set (readCg_set (readCg_set (e7.next hb2) (by omega)) (by omega)) (by omega)) (by omega)) (by omega)) (by omega))
        have HST : Hid (World.ownsRow _ _ _ _ _ _ _) := hst
        have HPA : Hid (partDn _ _ _ _ _) := hpart2
        have HB2 : Hid (Below _ _ _) := HB.out.trans (hb2.mono HB.out.size)
        have hz2 := hb2.size
        clear hst hown2 hb2 hpart2 hR2 hR3 HC
        go_wp2_with fail
        go_roundw
        case rel => exact ⟨k + 1, _, by omega, by go_num, HST.out, HPA.out, ((((((HB2.out.setCell (Nat.le_refl _) _).setCell (Nat.le_refl _) _).setCell (Nat.le_refl _) _).setCell (Nat.le_refl _) _).setCell (Nat.le_refl _) _).setCell (Nat.le_refl _) _)⟩
        case measure => simp [intOf]; omega
    · have hlt2 : ¬ (k : Int) < (l.length : Int) := by omega
      have hR : MadeDn wr w.heap.size w.heap.size l := ⟨Nat.le_refl _, (hown.lt _ rfl).2, fun i hi => by
        obtain ⟨er, ec, ⟨e0, e1, e2, e3, e4, e5⟩, e6, e7, e8⟩ := hpart i hi (by omega)
        exact ⟨er, ec, ⟨owns_cell hown _ _ e0, owns_cell hown _ _ e1, owns_cell hown _ _ e2, owns_cell hown _ _ e3, owns_cell hown _ _ e4, owns_cell hown _ _ e5⟩, e6.mono (by omega), e7, by omega⟩⟩
      have HR : Hid (MadeDn _ _ _ _) := hR
      clear hR hpart hown
      go_wp2_with fail
      go_ret
      exact ⟨⟨w.heap.size, rfl, HR.out⟩, hbel⟩
theorem keepDs {w w0 : World} {g1 g2 k ga gb ha hb_ : Nat} {x : Dn} (h1 : g1 < w.heap.size) (h2 : g2 < w.heap.size) (t0 : w.cell? ⟨g1, k * 6, none⟩ = some (.int .i64 x.sn)) (t1 : w.cell? ⟨g1, k * 6 + 1, none⟩ = some (.int .i64 x.at_)) (t2 : w.cell? ⟨g1, k * 6 + 2, none⟩ = some (.slice (some ⟨ga, 0, none⟩) x.rs.length x.rs.length)) (t3 : w.cell? ⟨g1, k * 6 + 3, none⟩ = some (.slice (some ⟨ha, 0, none⟩) x.cs.length x.cs.length)) (t4 : w.cell? ⟨g1, k * 6 + 4, none⟩ = some (.bool x.di)) (t5 : w.cell? ⟨g1, k * 6 + 5, none⟩ = some (.bool x.do_)) (t6 : w.cell? ⟨g2, k * 6, none⟩ = some (.int .i64 x.sn)) (t7 : w.cell? ⟨g2, k * 6 + 1, none⟩ = some (.int .i64 x.at_)) (t8 : w.cell? ⟨g2, k * 6 + 2, none⟩ = some (.slice (some ⟨gb, 0, none⟩) x.rs.length x.rs.length)) (t9 : w.cell? ⟨g2, k * 6 + 3, none⟩ = some (.slice (some ⟨hb_, 0, none⟩) x.cs.length x.cs.length)) (t10 : w.cell? ⟨g2, k * 6 + 4, none⟩ = some (.bool x.di)) (t11 : w.cell? ⟨g2, k * 6 + 5, none⟩ = some (.bool x.do_)) (hb : Below w.heap.size w w0) : w0.cell? ⟨g1, k * 6, none⟩ = some (.int .i64 x.sn) ∧ w0.cell? ⟨g1, k * 6 + 1, none⟩ = some (.int .i64 x.at_) ∧ w0.cell? ⟨g1, k * 6 + 2, none⟩ = some (.slice (some ⟨ga, 0, none⟩) x.rs.length x.rs.length) ∧ w0.cell? ⟨g1, k * 6 + 3, none⟩ = some (.slice (some ⟨ha, 0, none⟩) x.cs.length x.cs.length) ∧ w0.cell? ⟨g1, k * 6 + 4, none⟩ = some (.bool x.di) ∧ w0.cell? ⟨g1, k * 6 + 5, none⟩ = some (.bool x.do_) ∧ w0.cell? ⟨g2, k * 6, none⟩ = some (.int .i64 x.sn) ∧ w0.cell? ⟨g2, k * 6 + 1, none⟩ = some (.int .i64 x.at_) ∧ w0.cell? ⟨g2, k * 6 + 2, none⟩ = some (.slice (some ⟨gb, 0, none⟩) x.rs.length x.rs.length) ∧ w0.cell? ⟨g2, k * 6 + 3, none⟩ = some (.slice (some ⟨hb_, 0, none⟩) x.cs.length x.cs.length) ∧ w0.cell? ⟨g2, k * 6 + 4, none⟩ = some (.bool x.di) ∧ w0.cell? ⟨g2, k * 6 + 5, none⟩ = some (.bool x.do_) :=
  ⟨(hb.cell h1).trans t0, (hb.cell h1).trans t1, (hb.cell h1).trans t2, (hb.cell h1).trans t3, (hb.cell h1).trans t4, (hb.cell h1).trans t5, (hb.cell h2).trans t6, (hb.cell h2).trans t7, (hb.cell h2).trans t8, (hb.cell h2).trans t9, (hb.cell h2).trans t10, (hb.cell h2).trans t11⟩
set_option maxRecDepth 4000 in
set_option maxHeartbeats 4000000 in
theorem eqDoneS_same (g1 g2 c1 c2 b1 b2 : Nat) (l : List Dn) (w : World) (h1 : MadeDn w b1 g1 l) (h2 : MadeDn w b2 g2 l) (hlen : l.length ≤ 1048576) (hs : ∀ v ∈ l, szDn v) :
    Calls Tryz.prog 11 #[.slice (some ⟨g1, 0, none⟩) l.length c1, .slice (some ⟨g2, 0, none⟩) l.length c2] w fun e w' => e = .returned (.bool true) ∧ Below w.heap.size w w' := by
  have H1 : Hid (MadeDn _ _ _ _) := h1
  have H2 : Hid (MadeDn _ _ _ _) := h2
  have HS : Hid (∀ v ∈ l, szDn v) := hs
  clear h1 h2 hs
  go_enter Tryz.func11, Tryz.ntmps11
  go_wp2_with fail
  go_loopw [5] (fun i wr => ∃ k : Nat, k ≤ l.length ∧ i = .int .i64 k ∧ Below w.heap.size w wr) (fun i _ => l.length - (intOf i).toNat)
  case atStart => exact ⟨0, Nat.zero_le _, rfl, Below.refl _ _⟩
  case round =>
    obtain ⟨k, hk, rfl, hbel⟩ := hrel
    by_cases hlt : k < l.length
    · have hlt2 : (k : Int) < (l.length : Int) := by omega
      have R1 := H1.out.next hbel
      have R2 := H2.out.next hbel
      obtain ⟨ga, ha, ⟨t0, t1, t2, t3, t4, t5⟩, u0, u1, u2⟩ := R1.cells k hlt
      obtain ⟨gb, hb_, ⟨t6, t7, t8, t9, t10, t11⟩, v0, v1, v2⟩ := R2.cells k hlt
      have hg1 := R1.lt
      have hg2 := R2.lt
      have hsk := HS.out l[k] (List.getElem_mem _)
      obtain ⟨x, hx⟩ : ∃ x, x = l[k] := ⟨_, rfl⟩
      rw [← hx] at t0 t1 t2 t3 t4 t5 t6 t7 t8 t9 t10 t11 u0 u1 v0 v1 hsk
      have HC : Hid (∀ W : World, Below wr.heap.size wr W → Calls Tryz.prog 12 #[.agg #[.int .i64 x.sn, .int .i64 x.at_, .slice (some ⟨ga, 0, none⟩) x.rs.length x.rs.length, .slice (some ⟨ha, 0, none⟩) x.cs.length x.cs.length, .bool x.di, .bool x.do_], .agg #[.int .i64 x.sn, .int .i64 x.at_, .slice (some ⟨gb, 0, none⟩) x.rs.length x.rs.length, .slice (some ⟨hb_, 0, none⟩) x.cs.length x.cs.length, .bool x.di, .bool x.do_]] W fun e w' => e = .returned (.bool true) ∧ Below W.heap.size W w') := fun W hW => eqDone_same x.sn x.at_ ga ha gb hb_ x.rs.length x.cs.length x.rs.length x.cs.length b1 b2 x.di x.do_ x.rs x.cs W (u0.next hW) (v0.next hW) (u1.next hW).inCg (v1.next hW).inCg hsk
      clear hx hsk
      clear R1 R2 u0 u1 u2 v0 v1 v2
      go_wp2_with fail
      go_region_held3 (fun w0 => w0.cell? ⟨g1, k * 6, none⟩ = some (.int .i64 x.sn) ∧ w0.cell? ⟨g1, k * 6 + 1, none⟩ = some (.int .i64 x.at_) ∧ w0.cell? ⟨g1, k * 6 + 2, none⟩ = some (.slice (some ⟨ga, 0, none⟩) x.rs.length x.rs.length) ∧ w0.cell? ⟨g1, k * 6 + 3, none⟩ = some (.slice (some ⟨ha, 0, none⟩) x.cs.length x.cs.length) ∧ w0.cell? ⟨g1, k * 6 + 4, none⟩ = some (.bool x.di) ∧ w0.cell? ⟨g1, k * 6 + 5, none⟩ = some (.bool x.do_) ∧ w0.cell? ⟨g2, k * 6, none⟩ = some (.int .i64 x.sn) ∧ w0.cell? ⟨g2, k * 6 + 1, none⟩ = some (.int .i64 x.at_) ∧ w0.cell? ⟨g2, k * 6 + 2, none⟩ = some (.slice (some ⟨gb, 0, none⟩) x.rs.length x.rs.length) ∧ w0.cell? ⟨g2, k * 6 + 3, none⟩ = some (.slice (some ⟨hb_, 0, none⟩) x.cs.length x.cs.length) ∧ w0.cell? ⟨g2, k * 6 + 4, none⟩ = some (.bool x.di) ∧ w0.cell? ⟨g2, k * 6 + 5, none⟩ = some (.bool x.do_)) ((refine keepDs hg1 hg2 t0 t1 t2 t3 t4 t5 t6 t7 t8 t9 t10 t11 ?_; (repeat (first | (with_reducible exact Below.refl _ _) | (with_reducible assumption) | (with_reducible apply below_drewN) | (with_reducible apply Below.drew) | ((with_reducible refine Below.setCell ?_ ?_ _); rotate_left; focus (first | (simp; done) | (simp; omega) | omega)) | ((with_reducible refine Below.alloc ?_ ?_ _); rotate_left; focus (first | (simp; done) | (simp; omega) | omega)))))) ((go_at_call 12; refine (HC.out _ (by (repeat (first | (with_reducible exact Below.refl _ _) | (with_reducible assumption) | (with_reducible apply below_drewN) | (with_reducible apply Below.drew) | ((with_reducible refine Below.setCell ?_ ?_ _); rotate_left; focus (first | (simp; done) | (simp; omega) | omega)) | ((with_reducible refine Below.alloc ?_ ?_ _); rotate_left; focus (first | (simp; done) | (simp; omega) | omega)))))).mono ?_; rintro e w2 ⟨rfl, hb⟩; have hB2 : Below wr.heap.size wr w2 := (show Below wr.heap.size wr _ by (repeat (first | (with_reducible exact Below.refl _ _) | (with_reducible assumption) | (with_reducible apply below_drewN) | (with_reducible apply Below.drew) | ((with_reducible refine Below.setCell ?_ ?_ _); rotate_left; focus (first | (simp; done) | (simp; omega) | omega)) | ((with_reducible refine Below.alloc ?_ ?_ _); rotate_left; focus (first | (simp; done) | (simp; omega) | omega))))).trans (hb.mono (by simp)); clear hb))
      all_goals
        have hb2 := hbel.trans (hB2.mono hbel.size)
        go_wp2_with fail
        go_roundw
        case rel => exact ⟨k + 1, by omega, by go_num, hb2⟩
        case measure => simp [intOf]; omega
    · have hlt2 : ¬ (k : Int) < (l.length : Int) := by omega
      go_wp2_with fail
      go_ret
      exact ⟨rfl, hbel⟩

end Go.Proofs.YtcggkeleaepebaaGreatDoor.Ce

/- Committed ones that come in, opened: each one's reads and changes, at their places. -/
namespace Go.Proofs.YtcggkeleaepebaaGreatDoor.Ce
open Go.RowKit Go.Joins Go.Deep Go.ChangeShapes Go.WideShapes Go.ChangeAt Tr Co Rea
set_option linter.unusedVariables false

instance : Inhabited Dn := ⟨⟨0, 0, [], [], false, false⟩⟩
set_option maxRecDepth 100000 in
theorem open_dones {H : Type} {enc : TypeId × Value → H} {w : World} {base : Nat} {spare : Nat → Bool} {held : Bool} {fuel : Nat} {cs : List Value} {x : DataW H × List MemPlace}
    (h : DataW.trod enc Tryz.prog w base spare held fuel 22 cs = some x) :
    ∃ (a : Option Addr) (len cap : Nat) (f : List Dn), cs = [.slice a len cap] ∧ f.length = len ∧ f.length ≤ maxLen ∧ (∀ l ∈ f, maxDn l) ∧ InDn w a f := by
  rcases open_slice Tryz.underlying22 h with ⟨rfl, _⟩ | ⟨a, len, cap, m, n, D, Pl, rfl, hb, hl, hm, hmm, _, hx⟩
  · exact ⟨none, 0, 0, [], rfl, rfl, Nat.zero_le _, (fun v hv => by simp at hv), .inl rfl⟩
  · have hlm : len ≤ m := by rw [hmm]; split <;> omega
    rw [cellsDn] at hx
    obtain ⟨f, hf⟩ := choose_lt (α := Dn) (n := len) (p := fun i l => ∃ p cp q cq, (w.cell? (a.add (i * 6)) = some (.int .i64 l.sn) ∧ w.cell? ((a.add (i * 6)).add 1) = some (.int .i64 l.at_) ∧ w.cell? ((a.add (i * 6)).add 2) = some (.slice p l.rs.length cp) ∧ w.cell? ((a.add (i * 6)).add 3) = some (.slice q l.cs.length cq) ∧ w.cell? ((a.add (i * 6)).add 4) = some (.bool l.di) ∧ w.cell? ((a.add (i * 6)).add 5) = some (.bool l.do_)) ∧ maxDn l ∧ InRd w p l.rs ∧ InCg w q l.cs) (fun i hi => by
      obtain ⟨cs', h1, h2⟩ := hx i (by omega)
      obtain ⟨_, hlen, hc⟩ := World.cells?_some h1
      match cs', hlen with
      | [c0, c1, c2, c3, c4, c5], _ =>
        obtain ⟨y0, y1, y2, y3, y4, y5, n', t0, t1, t2, t3, t4, t5⟩ := trod_struct6d Tryz.underlying26 h2
        obtain ⟨sn, e0, _⟩ := DataW.trod_int Tryz.underlying3 t0
        obtain ⟨at_, e1, _⟩ := DataW.trod_int Tryz.underlying3 t1
        obtain ⟨p1, l1, k1, rs, e2, hl1, hr0, hr1, hr2⟩ := open_reads t2
        obtain ⟨p2, l2, k2, gs, e3, hl2, hs1, hs2⟩ := open_changes t3
        obtain ⟨di, e4, _⟩ := DataW.trod_bool Tryz.underlying4 t4
        obtain ⟨do_, e5, _⟩ := DataW.trod_bool Tryz.underlying4 t5
        simp [cellsI1, cellsB1, cellsRw, cellsCw] at e0 e1 e2 e3 e4 e5
        subst e0 e1 e2 e3 e4 e5 hl1 hl2
        refine ⟨⟨sn, at_, rs, gs, di, do_⟩, p1, k1, p2, k2, ⟨?_, ?_, ?_, ?_, ?_, ?_⟩, ⟨hr0, hr1, hs1.1, hs1.2⟩, hr2, hs2⟩
        · have := hc 0 (by omega); simpa [Addr.add] using this
        · exact hc 1 (by omega)
        · exact hc 2 (by omega)
        · exact hc 3 (by omega)
        · exact hc 4 (by omega)
        · exact hc 5 (by omega))
    refine ⟨some a, len, cap, (List.range len).map f, rfl, by simp, by simp; omega, ?_, ?_⟩
    · intro v hv
      obtain ⟨i, hi, rfl⟩ := List.mem_map.mp hv
      obtain ⟨_, _, _, _, _, h2, _⟩ := hf i (by simpa using hi)
      exact h2
    · by_cases h0 : len = 0
      · exact .inl (by simp [h0])
      · obtain ⟨b, off, spot⟩ := a
        obtain ⟨_, _, _, _, hc0, _⟩ := hf 0 (by omega)
        have hspot : spot = none := by simpa [Addr.add] using World.cell?_spot hc0.1
        subst hspot
        have hlt : b < w.heap.size := by
          rcases Nat.lt_or_ge b w.heap.size with h | h
          · exact h
          · have := hc0.1; simp [World.cell?, Addr.add, Array.getElem?_eq_none h] at this
        refine .inr ⟨b, off, rfl, hlt, fun i hi => ?_⟩
        have hi2 : i < len := by simpa using hi
        obtain ⟨p, cp, q, cq, ⟨x0, x1, x2, x3, x4, x5⟩, _, h2, h3⟩ := hf i hi2
        simp only [addO] at x0 x1 x2 x3 x4 x5
        simp only [List.getElem_map, List.getElem_range]
        exact ⟨p, cp, q, cq, ⟨x0, x1, x2, x3, x4, x5⟩, h2, h3⟩
theorem okSlice_form {P : Program} {w : World} {r : Reach} {b0 : Nat} {t : TypeId} {v : Value} {H : Type} {enc : TypeId × Value → H} {base : Nat} {spare : Nat → Bool} {held : Bool} {d : DataW H} {ps : List MemPlace} {Q : List Value → Prop}
    (h : DataW.Trod enc P w base spare held t v d ps) (hv : ∀ fuel cs x, DataW.trod enc P w base spare held fuel t cs = some x → Q cs) : Q v.cells.toList := by
  obtain ⟨fuel, hf⟩ := h
  exact hv fuel _ _ hf

end Go.Proofs.YtcggkeleaepebaaGreatDoor.Ce

/- The laws' sizes of committed ones, with what they count in all. -/
namespace Go.Proofs.YtcggkeleaepebaaGreatDoor.Ce
open Go.RowKit Go.ChangeShapes Go.WideShapes Go.ChangeAt Go.Joins Tr Co Rea
set_option linter.unusedVariables false

def sumN {α : Type} (F : α → Nat) (l : List α) : Nat := (l.map F).sum
theorem sumN_nil {α : Type} (F : α → Nat) : sumN F [] = 0 := rfl
theorem sumN_take {α : Type} (F : α → Nat) (l : List α) (k : Nat) (h : k < l.length) : sumN F (l.take (k + 1)) = sumN F (l.take k) + F l[k] := by
  unfold sumN
  rw [List.take_succ_eq_append_getElem h, List.map_append, List.sum_append]
  simp
theorem sumN_cons {α : Type} (F : α → Nat) (a : α) (l : List α) : sumN F (a :: l) = F a + sumN F l := by simp [sumN]
/-- What filters, reads, committed ones count. -/
def cntC (f : List (List Trm)) : Nat := f.length + sumN (fun l => l.length) f
def cntR (rs : List Rdg) : Nat := rs.length + sumN (fun x => cntC x.f) rs
def cntD (ds : List Dn) : Nat := ds.length + sumN (fun x => cntR x.rs + x.cs.length) ds
set_option maxRecDepth 4000 in
set_option maxHeartbeats 1000000 in
theorem szTermS_tot (a : Option Addr) (cap : Nat) (l : List Trm) (c0 : Int) (w : World) (hin : InT w a l) (hl : l.length ≤ maxLen) (hs : ∀ v ∈ l, maxT v) (h0 : 0 ≤ c0) (h1 : c0 ≤ 1048576) :
    Calls Tryz.prog 127 #[.slice a l.length cap, .int .i64 c0] w fun e w' => (∃ r : Int, e = .returned (.int .i64 r) ∧ (r < 0 ∨ (0 ≤ r ∧ r + (l.length : Int) ≤ c0 ∧ l.length ≤ 1048576 ∧ ∀ v ∈ l, szT v))) ∧ Below w.heap.size w w' := by
  unfold maxLen at hl
  have HI : Hid _ := hin
  have HS : Hid _ := hs
  clear hin hs
  by_cases hbig : c0 < (l.length : Int)
  · have hneg : c0 - (l.length : Int) < 0 := by omega
    go_enter Tryz.func127, Tryz.ntmps127
    go_wp2_with fail
    go_ret
    exact ⟨⟨-1, rfl, .inl (by omega)⟩, Below.refl _ _⟩
  · have hneg : ¬ c0 - (l.length : Int) < 0 := by omega
    go_enter Tryz.func127, Tryz.ntmps127
    go_wp2_with fail
    go_loopw [1, 5] (fun u i wr => ∃ k : Nat, k ≤ l.length ∧ i = .int .i64 k ∧ ∃ c : Int, u = .int .i64 c ∧ 0 ≤ c ∧ c + (l.length : Int) ≤ c0 ∧ (∀ v ∈ l.take k, szT v) ∧ Below w.heap.size w wr) (fun _ i _ => l.length - (intOf i).toNat)
    case atStart => exact ⟨0, Nat.zero_le _, rfl, _, rfl, by omega, by omega, (fun v hv => by simp at hv), Below.refl _ _⟩
    case round =>
      obtain ⟨k, hk, rfl, c, rfl, hc0, hc1, hall, hbel⟩ := hrel
      have HA : Hid _ := hall
      clear hall
      by_cases hlt : k < l.length
      · rcases HI.out with h0' | ⟨b, off, rfl, hbl, hcell⟩
        · omega
        · have hlt2 : (k : Int) < (l.length : Int) := by omega
          have x0 := (hbel.cell hbl).trans (hcell k hlt).1
          have x1 := (hbel.cell hbl).trans (hcell k hlt).2.1
          have x2 := (hbel.cell hbl).trans (hcell k hlt).2.2.1
          have x3 := (hbel.cell hbl).trans (hcell k hlt).2.2.2.1
          have x4 := (hbel.cell hbl).trans (hcell k hlt).2.2.2.2
          have hsz := HS.out l[k] (List.getElem_mem _)
          clear hcell
          go_wp2_with fail
          refine (szTerm_any _ _ _ _ _ c _ hsz.1 hsz.2 hc0 (by omega)).mono ?_
          rintro e w1 ⟨⟨r, rfl, hr⟩, hb⟩
          have hb1 := hbel.trans (hb.mono hbel.size)
          clear hb
          rcases hr with hneg2 | ⟨hr0, hr1, hr2, hr3⟩
          · go_wp2_with fail
            go_ret
            exact ⟨⟨-1, rfl, .inl (by omega)⟩, hb1⟩
          · have hnn : ¬ r < 0 := by omega
            have HSZ : Hid (szT l[k]) := ⟨hr2, hr3⟩
            clear hr2 hr3
            go_wp2_with fail
            go_roundw
            case rel => exact ⟨k + 1, by omega, by go_num, r, rfl, by omega, by omega, take_allT _ l k hlt HA.out HSZ.out, hb1⟩
            case measure => simp [intOf]; omega
      · have hlt2 : ¬ (k : Int) < (l.length : Int) := by omega
        go_wp2_with fail
        go_ret
        exact ⟨⟨c, rfl, .inr ⟨hc0, hc1, by omega, by have := HA.out; rw [List.take_of_length_le (by omega)] at this; exact this⟩⟩, hbel⟩

set_option maxRecDepth 4000 in
set_option maxHeartbeats 1000000 in
theorem szClause_tot (a : Option Addr) (cap : Nat) (l : List Trm) (c0 : Int) (w : World) (hin : InT w a l) (hm : maxC l) (h0 : 0 ≤ c0) (h1 : c0 ≤ 1048576) :
    Calls Tryz.prog 111 #[.agg #[.slice a l.length cap], .int .i64 c0] w fun e w' => (∃ r : Int, e = .returned (.int .i64 r) ∧ (r < 0 ∨ (0 ≤ r ∧ r + (l.length : Int) ≤ c0 ∧ szC l))) ∧ Below w.heap.size w w' := by
  have hb0 : Below w.heap.size w (w.alloc (.cells #[.slice a l.length cap] 148)) := (Below.refl _ _).alloc (Nat.le_refl _) _
  have HC : Hid (Calls _ _ _ _ _) := szTermS_tot a cap l c0 (w.alloc (.cells #[.slice a l.length cap] 148)) (hin.step hb0) hm.1 hm.2 h0 h1
  clear hin hm
  go_enter Tryz.func111, Tryz.ntmps111
  go_wp2_with fail
  refine HC.out.mono ?_
  rintro e w1 ⟨⟨r, rfl, hr⟩, hb⟩
  have hb1 := hb0.trans (hb.mono hb0.size)
  clear hb HC
  rcases hr with hneg | ⟨hr0, hr1, hr2, hr3⟩
  · go_wp2_with fail
    go_ret
    exact ⟨⟨-1, rfl, .inl (by omega)⟩, hb1⟩
  · have hnn : ¬ r < 0 := by omega
    have HS : Hid (szC l) := ⟨hr2, hr3⟩
    clear hr2 hr3
    go_wp2_with fail
    go_ret
    exact ⟨⟨r, rfl, .inr ⟨hr0, hr1, HS.out⟩⟩, hb1⟩

set_option maxRecDepth 4000 in
set_option maxHeartbeats 1000000 in
theorem szClauseS_tot (a : Option Addr) (cap : Nat) (f : List (List Trm)) (c0 : Int) (w : World) (hin : InCl w a f) (hl : f.length ≤ maxLen) (hs : ∀ l ∈ f, maxC l) (h0 : 0 ≤ c0) (h1 : c0 ≤ 1048576) :
    Calls Tryz.prog 93 #[.slice a f.length cap, .int .i64 c0] w fun e w' => (∃ r : Int, e = .returned (.int .i64 r) ∧ (r < 0 ∨ (0 ≤ r ∧ r + (cntC f : Int) ≤ c0 ∧ f.length ≤ 1048576 ∧ ∀ l ∈ f, szC l))) ∧ Below w.heap.size w w' := by
  unfold maxLen at hl
  have HI : Hid (InCl _ _ _) := hin
  have HS : Hid _ := hs
  clear hin hs
  by_cases hbig : c0 < (f.length : Int)
  · have hneg : c0 - (f.length : Int) < 0 := by omega
    go_enter Tryz.func93, Tryz.ntmps93
    go_wp2_with fail
    go_ret
    exact ⟨⟨-1, rfl, .inl (by omega)⟩, Below.refl _ _⟩
  · have hneg : ¬ c0 - (f.length : Int) < 0 := by omega
    go_enter Tryz.func93, Tryz.ntmps93
    go_wp2_with fail
    go_loopw [1, 5] (fun u i wr => ∃ k : Nat, k ≤ f.length ∧ i = .int .i64 k ∧ ∃ c : Int, u = .int .i64 c ∧ 0 ≤ c ∧ c + (f.length : Int) + (sumN (fun l => l.length) (f.take k) : Int) ≤ c0 ∧ (∀ v ∈ f.take k, szC v) ∧ Below w.heap.size w wr) (fun _ i _ => f.length - (intOf i).toNat)
    case atStart => exact ⟨0, Nat.zero_le _, rfl, _, rfl, by omega, by rw [List.take_zero]; simp only [sumN_nil]; omega, (fun v hv => by simp at hv), Below.refl _ _⟩
    case round =>
      obtain ⟨k, hk, rfl, c, rfl, hc0, hc1, hall, hbel⟩ := hrel
      have HA : Hid _ := hall
      clear hall
      by_cases hlt : k < f.length
      · rcases HI.out.step hbel with h0' | ⟨b, off, rfl, hbl, hcell⟩
        · omega
        · have hlt2 : (k : Int) < (f.length : Int) := by omega
          obtain ⟨p, pc, x0, hT⟩ := hcell k hlt
          have HC : Hid (Calls _ _ _ _ _) := szClause_tot p pc f[k] c wr hT (HS.out f[k] (List.getElem_mem _)) hc0 (by omega)
          clear hcell hT
          go_wp2_with fail
          refine HC.out.mono ?_
          rintro e w1 ⟨⟨r, rfl, hr⟩, hb⟩
          have hb1 := hbel.trans (hb.mono hbel.size)
          clear hb HC
          rcases hr with hneg2 | ⟨hr0, hr1, hr2⟩
          · go_wp2_with fail
            go_ret
            exact ⟨⟨-1, rfl, .inl (by omega)⟩, hb1⟩
          · have hnn : ¬ r < 0 := by omega
            have HSZ : Hid (szC f[k]) := hr2
            clear hr2
            go_wp2_with fail
            go_roundw
            case rel => exact ⟨k + 1, by omega, by go_num, r, rfl, by omega, by have hsn := sumN_take (fun l => l.length) f k hlt; (try dsimp only at hsn); omega, take_allC _ f k hlt HA.out HSZ.out, hb1⟩
            case measure => simp [intOf]; omega
      · have hlt2 : ¬ (k : Int) < (f.length : Int) := by omega
        go_wp2_with fail
        go_ret
        exact ⟨⟨c, rfl, .inr ⟨hc0, by rw [List.take_of_length_le (by omega)] at hc1; unfold cntC; omega, by omega, by have := HA.out; rw [List.take_of_length_le (by omega)] at this; exact this⟩⟩, hbel⟩
set_option maxRecDepth 4000 in
set_option maxHeartbeats 1000000 in
theorem szFilter_tot (a : Option Addr) (cap : Nat) (f : List (List Trm)) (c0 : Int) (w : World) (hin : InCl w a f) (hl : f.length ≤ maxLen) (hs : ∀ l ∈ f, maxC l) (h0 : 0 ≤ c0) (h1 : c0 ≤ 1048576) :
    Calls Tryz.prog 66 #[.agg #[.slice a f.length cap], .int .i64 c0] w fun e w' => (∃ r : Int, e = .returned (.int .i64 r) ∧ (r < 0 ∨ (0 ≤ r ∧ r + (cntC f : Int) ≤ c0 ∧ f.length ≤ 1048576 ∧ ∀ l ∈ f, szC l))) ∧ Below w.heap.size w w' := by
  have hb0 : Below w.heap.size w (w.alloc (.cells #[.slice a f.length cap] 62)) := (Below.refl _ _).alloc (Nat.le_refl _) _
  have HC : Hid (Calls _ _ _ _ _) := szClauseS_tot a cap f c0 (w.alloc (.cells #[.slice a f.length cap] 62)) (hin.step hb0) hl hs h0 h1
  clear hin hs
  go_enter Tryz.func66, Tryz.ntmps66
  go_wp2_with fail
  refine HC.out.mono ?_
  rintro e w1 ⟨⟨r, rfl, hr⟩, hb⟩
  have hb1 := hb0.trans (hb.mono hb0.size)
  clear hb HC
  rcases hr with hneg | ⟨hr0, hr1, hr2, hr3⟩
  · go_wp2_with fail
    go_ret
    exact ⟨⟨-1, rfl, .inl (by omega)⟩, hb1⟩
  · have hnn : ¬ r < 0 := by omega
    have HS : Hid (∀ l ∈ f, szC l) := hr3
    clear hr3
    go_wp2_with fail
    go_ret
    exact ⟨⟨r, rfl, .inr ⟨hr0, hr1, hr2, HS.out⟩⟩, hb1⟩

set_option maxRecDepth 4000 in
set_option maxHeartbeats 1000000 in
theorem szRead_tot (s : ByteArray) (p : Option Addr) (cap : Nat) (f : List (List Trm)) (c0 : Int) (w : World) (hin : InCl w p f) (hm : MaxR s f) (h0 : 0 ≤ c0) (h1 : c0 ≤ 1048576) :
    Calls Tryz.prog 39 #[.agg #[.string s, .slice p f.length cap], .int .i64 c0] w fun e w' => (∃ r : Int, e = .returned (.int .i64 r) ∧ (r < 0 ∨ (0 ≤ r ∧ r + (cntC f : Int) ≤ c0 ∧ SzR s f))) ∧ Below w.heap.size w w' := by
  have X0 := BoxR.start w (.string s) (.slice p f.length cap) 64
  have hbw := X0.bel
  have hmx := hm.s0
  unfold maxLen at hmx
  by_cases hover : c0 < (s.size : Int)
  · have hneg : c0 - (s.size : Int) < 0 := by omega
    go_enter Tryz.func39, Tryz.ntmps39
    go_wp2_with fail
    go_ret
    exact ⟨⟨-1, rfl, .inl (by omega)⟩, hbw⟩
  · have hpos : ¬ c0 - (s.size : Int) < 0 := by omega
    have HF : Hid (Calls _ _ _ _ _) := szFilter_tot p cap f (c0 - s.size) _ (hin.step X0.bel) hm.f0 hm.f1 (by omega) (by omega)
    have c1 := X0.c1
    clear hin hm
    go_enter Tryz.func39, Tryz.ntmps39
    go_wp2_with fail
    refine HF.out.mono ?_
    rintro e w1 ⟨⟨r, rfl, hr⟩, hb⟩
    have hbw1 := (X0.step hb).bel
    clear hb
    rcases hr with hneg | ⟨hr0, hr1, hr2, hr3⟩
    · go_wp2_with fail
      go_ret
      exact ⟨⟨-1, rfl, .inl (by omega)⟩, hbw1⟩
    · have hnn : ¬ r < 0 := by omega
      have HR3 : Hid (∀ l ∈ f, szC l) := hr3
      clear hr3
      go_wp2_with fail
      go_ret
      exact ⟨⟨r, rfl, .inr ⟨hr0, by omega, ⟨by omega, hr2, HR3.out⟩⟩⟩, hbw1⟩
set_option maxRecDepth 4000 in
set_option maxHeartbeats 1000000 in
theorem szReadS_tot (a : Option Addr) (cap : Nat) (l : List Rdg) (c0 : Int) (w : World) (hin : InRd w a l) (hl : l.length ≤ maxLen) (hs : ∀ v ∈ l, maxRd v) (h0 : 0 ≤ c0) (h1 : c0 ≤ 1048576) :
    Calls Tryz.prog 18 #[.slice a l.length cap, .int .i64 c0] w fun e w' => (∃ r : Int, e = .returned (.int .i64 r) ∧ (r < 0 ∨ (0 ≤ r ∧ r + (cntR l : Int) ≤ c0 ∧ l.length ≤ 1048576 ∧ ∀ v ∈ l, szRd v))) ∧ Below w.heap.size w w' := by
  unfold maxLen at hl
  have HI : Hid (InRd _ _ _) := hin
  have HS : Hid (∀ v ∈ l, maxRd v) := hs
  clear hin hs
  by_cases hbig : c0 < (l.length : Int)
  · have hneg : c0 - (l.length : Int) < 0 := by omega
    go_enter Tryz.func18, Tryz.ntmps18
    go_wp2_with fail
    go_ret
    exact ⟨⟨-1, rfl, .inl (by omega)⟩, Below.refl _ _⟩
  · have hneg : ¬ c0 - (l.length : Int) < 0 := by omega
    go_enter Tryz.func18, Tryz.ntmps18
    go_wp2_with fail
    go_loopw [1, 5] (fun u i wr => ∃ k : Nat, k ≤ l.length ∧ i = .int .i64 k ∧ ∃ c : Int, u = .int .i64 c ∧ 0 ≤ c ∧ c + (l.length : Int) + (sumN (fun x => cntC x.f) (l.take k) : Int) ≤ c0 ∧ (∀ v ∈ l.take k, szRd v) ∧ Below w.heap.size w wr) (fun _ i _ => l.length - (intOf i).toNat)
    case atStart => exact ⟨0, Nat.zero_le _, rfl, _, rfl, by omega, by rw [List.take_zero]; simp only [sumN_nil]; omega, (fun v hv => by simp at hv), Below.refl _ _⟩
    case round =>
      obtain ⟨k, hk, rfl, c, rfl, hc0, hc1, hall, hbel⟩ := hrel
      have HA : Hid (∀ v ∈ l.take k, szRd v) := hall
      clear hall
      by_cases hlt : k < l.length
      · rcases HI.out.step hbel with h0' | ⟨b, off, rfl, hbl, hcell⟩
        · omega
        · have hlt2 : (k : Int) < (l.length : Int) := by omega
          obtain ⟨x0, p, pc, x1, hT⟩ := hcell k hlt
          have HC : Hid (Calls _ _ _ _ _) := szRead_tot l[k].coll p pc l[k].f c wr hT (HS.out l[k] (List.getElem_mem _)) hc0 (by omega)
          clear hcell hT
          go_wp2_with fail
          refine HC.out.mono ?_
          rintro e w1 ⟨⟨r, rfl, hr⟩, hb⟩
          have hb1 := hbel.trans (hb.mono hbel.size)
          clear hb HC
          rcases hr with hneg2 | ⟨hr0, hr1, hr2⟩
          · go_wp2_with fail
            go_ret
            exact ⟨⟨-1, rfl, .inl (by omega)⟩, hb1⟩
          · have hnn : ¬ r < 0 := by omega
            have HSZ : Hid (szRd l[k]) := hr2
            clear hr2
            go_wp2_with fail
            go_roundw
            case rel => exact ⟨k + 1, by omega, by go_num, r, rfl, by omega, by have hsn := sumN_take (fun x => cntC x.f) l k hlt; (try dsimp only at hsn); omega, take_allRd _ l k hlt HA.out HSZ.out, hb1⟩
            case measure => simp [intOf]; omega
      · have hlt2 : ¬ (k : Int) < (l.length : Int) := by omega
        go_wp2_with fail
        go_ret
        exact ⟨⟨c, rfl, .inr ⟨hc0, by rw [List.take_of_length_le (by omega)] at hc1; unfold cntR; omega, by omega, by have := HA.out; rw [List.take_of_length_le (by omega)] at this; exact this⟩⟩, hbel⟩
set_option maxRecDepth 4000 in
set_option maxHeartbeats 1000000 in
theorem szChangeS_tot (a : Option Addr) (cap : Nat) (l : List Cgr) (c0 : Int) (w : World) (hin : InCg w a l) (hl : l.length ≤ maxLen) (hs : ∀ v ∈ l, maxCg v) (h0 : 0 ≤ c0) (h1 : c0 ≤ 1048576) :
    Calls Tryz.prog 19 #[.slice a l.length cap, .int .i64 c0] w fun e w' => (∃ r : Int, e = .returned (.int .i64 r) ∧ (r < 0 ∨ (0 ≤ r ∧ r + (l.length : Int) ≤ c0 ∧ l.length ≤ 1048576 ∧ ∀ v ∈ l, szCg v))) ∧ Below w.heap.size w w' := by
  unfold maxLen at hl
  have HI : Hid _ := hin
  have HS : Hid _ := hs
  clear hin hs
  by_cases hbig : c0 < (l.length : Int)
  · have hneg : c0 - (l.length : Int) < 0 := by omega
    go_enter Tryz.func19, Tryz.ntmps19
    go_wp2_with fail
    go_ret
    exact ⟨⟨-1, rfl, .inl (by omega)⟩, Below.refl _ _⟩
  · have hneg : ¬ c0 - (l.length : Int) < 0 := by omega
    go_enter Tryz.func19, Tryz.ntmps19
    go_wp2_with fail
    go_loopw [1, 5] (fun u i wr => ∃ k : Nat, k ≤ l.length ∧ i = .int .i64 k ∧ ∃ c : Int, u = .int .i64 c ∧ 0 ≤ c ∧ c + (l.length : Int) ≤ c0 ∧ (∀ v ∈ l.take k, szCg v) ∧ Below w.heap.size w wr) (fun _ i _ => l.length - (intOf i).toNat)
    case atStart => exact ⟨0, Nat.zero_le _, rfl, _, rfl, by omega, by omega, (fun v hv => by simp at hv), Below.refl _ _⟩
    case round =>
      obtain ⟨k, hk, rfl, c, rfl, hc0, hc1, hall, hbel⟩ := hrel
      have HA : Hid _ := hall
      clear hall
      by_cases hlt : k < l.length
      · rcases HI.out with h0' | ⟨b, off, rfl, hbl, hcell⟩
        · omega
        · have hlt2 : (k : Int) < (l.length : Int) := by omega
          have x0 := (hbel.cell hbl).trans (hcell k hlt).1
          have x1 := (hbel.cell hbl).trans (hcell k hlt).2.1
          have x2 := (hbel.cell hbl).trans (hcell k hlt).2.2.1
          have x3 := (hbel.cell hbl).trans (hcell k hlt).2.2.2.1
          have x4 := (hbel.cell hbl).trans (hcell k hlt).2.2.2.2.1
          have x5 := (hbel.cell hbl).trans (hcell k hlt).2.2.2.2.2.1
          have x6 := (hbel.cell hbl).trans (hcell k hlt).2.2.2.2.2.2.1
          have x7 := (hbel.cell hbl).trans (hcell k hlt).2.2.2.2.2.2.2.1
          have x8 := (hbel.cell hbl).trans (hcell k hlt).2.2.2.2.2.2.2.2.1
          have x9 := (hbel.cell hbl).trans (hcell k hlt).2.2.2.2.2.2.2.2.2
          have hsz := HS.out l[k] (List.getElem_mem _)
          clear hcell
          go_wp2_with fail
          refine (szChange_any l[k] c _ hsz hc0 (by omega)).mono ?_
          rintro e w1 ⟨⟨r, rfl, hr⟩, hb⟩
          have hb1 := hbel.trans (hb.mono hbel.size)
          clear hb
          rcases hr with hneg2 | ⟨hr0, hr1, hr2⟩
          · go_wp2_with fail
            go_ret
            exact ⟨⟨-1, rfl, .inl (by omega)⟩, hb1⟩
          · have hnn : ¬ r < 0 := by omega
            have HSZ : Hid (szCg l[k]) := hr2
            clear hr2
            go_wp2_with fail
            go_roundw
            case rel => exact ⟨k + 1, by omega, by go_num, r, rfl, by omega, by omega, take_allCg _ l k hlt HA.out HSZ.out, hb1⟩
            case measure => simp [intOf]; omega
      · have hlt2 : ¬ (k : Int) < (l.length : Int) := by omega
        go_wp2_with fail
        go_ret
        exact ⟨⟨c, rfl, .inr ⟨hc0, hc1, by omega, by have := HA.out; rw [List.take_of_length_le (by omega)] at this; exact this⟩⟩, hbel⟩

set_option maxRecDepth 4000 in
set_option maxHeartbeats 2000000 in
theorem szDone_tot (sn at_ : Int) (p1 p2 : Option Addr) (c1 c2 : Nat) (di do_ : Bool) (rs : List Rdg) (cs : List Cgr) (c0 : Int) (w : World) (h1 : InRd w p1 rs) (h2 : InCg w p2 cs) (hm : MaxDn rs cs) (hc0 : 0 ≤ c0) (hc1 : c0 ≤ 1048576) :
    Calls Tryz.prog 6 #[.agg #[.int .i64 sn, .int .i64 at_, .slice p1 rs.length c1, .slice p2 cs.length c2, .bool di, .bool do_], .int .i64 c0] w fun e w' => (∃ r : Int, e = .returned (.int .i64 r) ∧ (r < 0 ∨ (0 ≤ r ∧ r + ((cntR rs + cs.length : Nat) : Int) ≤ c0 ∧ SzDn rs cs))) ∧ Below w.heap.size w w' := by
  have X0 := BxDn.start w (.int .i64 sn) (.int .i64 at_) (.slice p1 rs.length c1) (.slice p2 cs.length c2) (.bool di) (.bool do_) 26
  have HI2 : Hid (InCg _ _ _) := h2
  have HM : Hid (MaxDn rs cs) := hm
  have HA : Hid (Calls _ _ _ _ _) := szReadS_tot p1 c1 rs c0 _ (h1.step X0.bel) hm.r0 hm.r1 hc0 hc1
  clear h1 h2 hm
  go_enter Tryz.func6, Tryz.ntmps6
  go_wp2_with fail
  refine HA.out.mono ?_
  rintro e w1 ⟨⟨r1, rfl, hr1⟩, hb⟩
  have X1 := X0.step hb
  have k3 := X1.c3
  have B1 := X1.bel
  clear hb X0 HA
  rcases hr1 with hneg | ⟨q0, q1, q2, q3⟩
  · go_wp2_with fail
    go_ret
    exact ⟨⟨-1, rfl, .inl (by omega)⟩, B1⟩
  have hn1 : ¬ r1 < 0 := by omega
  have HP : Hid (∀ v ∈ rs, szRd v) := q3
  clear q3
  go_wp2_with fail
  refine (szChangeS_tot p2 c2 cs r1 _ (HI2.out.step X1.bel) HM.out.s0 HM.out.s1 q0 (by omega)).mono ?_
  rintro e w2 ⟨⟨r2, rfl, hr2⟩, hb⟩
  have B2 := (X1.step hb).bel
  clear hb X1
  rcases hr2 with hneg | ⟨s0, s1, s2, s3⟩
  · go_wp2_with fail
    go_ret
    exact ⟨⟨-1, rfl, .inl (by omega)⟩, B2⟩
  have hn2 : ¬ r2 < 0 := by omega
  have HS : Hid (∀ v ∈ cs, szCg v) := s3
  clear s3
  go_wp2_with fail
  go_ret
  exact ⟨⟨r2, rfl, .inr ⟨by omega, by omega, ⟨q2, HP.out, s2, HS.out⟩⟩⟩, B2⟩

set_option maxRecDepth 4000 in
set_option maxHeartbeats 1000000 in
theorem szDoneS_tot (a : Option Addr) (cap : Nat) (l : List Dn) (c0 : Int) (w : World) (hin : InDn w a l) (hl : l.length ≤ maxLen) (hs : ∀ v ∈ l, maxDn v) (h0 : 0 ≤ c0) (h1 : c0 ≤ 1048576) :
    Calls Tryz.prog 5 #[.slice a l.length cap, .int .i64 c0] w fun e w' => (∃ r : Int, e = .returned (.int .i64 r) ∧ (r < 0 ∨ (0 ≤ r ∧ r + (cntD l : Int) ≤ c0 ∧ l.length ≤ 1048576 ∧ ∀ v ∈ l, szDn v))) ∧ Below w.heap.size w w' := by
  unfold maxLen at hl
  have HI : Hid (InDn _ _ _) := hin
  have HS : Hid (∀ v ∈ l, maxDn v) := hs
  clear hin hs
  by_cases hbig : c0 < (l.length : Int)
  · have hneg : c0 - (l.length : Int) < 0 := by omega
    go_enter Tryz.func5, Tryz.ntmps5
    go_wp2_with fail
    go_ret
    exact ⟨⟨-1, rfl, .inl (by omega)⟩, Below.refl _ _⟩
  · have hneg : ¬ c0 - (l.length : Int) < 0 := by omega
    go_enter Tryz.func5, Tryz.ntmps5
    go_wp2_with fail
    go_loopw [1, 5] (fun u i wr => ∃ k : Nat, k ≤ l.length ∧ i = .int .i64 k ∧ ∃ c : Int, u = .int .i64 c ∧ 0 ≤ c ∧ c + (l.length : Int) + (sumN (fun x => cntR x.rs + x.cs.length) (l.take k) : Int) ≤ c0 ∧ (∀ v ∈ l.take k, szDn v) ∧ Below w.heap.size w wr) (fun _ i _ => l.length - (intOf i).toNat)
    case atStart => exact ⟨0, Nat.zero_le _, rfl, _, rfl, by omega, by rw [List.take_zero]; simp only [sumN_nil]; omega, (fun v hv => by simp at hv), Below.refl _ _⟩
    case round =>
      obtain ⟨k, hk, rfl, c, rfl, hc0, hc1, hall, hbel⟩ := hrel
      have HA : Hid (∀ v ∈ l.take k, szDn v) := hall
      clear hall
      by_cases hlt : k < l.length
      · rcases HI.out.step hbel with h0' | ⟨b, off, rfl, hbl, hcell⟩
        · omega
        · have hlt2 : (k : Int) < (l.length : Int) := by omega
          obtain ⟨p, cp, q, cq, ⟨x0, x1, x2, x3, x4, x5⟩, hT, hU⟩ := hcell k hlt
          have HC : Hid (Calls _ _ _ _ _) := szDone_tot l[k].sn l[k].at_ p q cp cq l[k].di l[k].do_ l[k].rs l[k].cs c wr hT hU (HS.out l[k] (List.getElem_mem _)) hc0 (by omega)
          clear hcell hT hU
          go_wp2_with fail
          refine HC.out.mono ?_
          rintro e w1 ⟨⟨r, rfl, hr⟩, hb⟩
          have hb1 := hbel.trans (hb.mono hbel.size)
          clear hb HC
          rcases hr with hneg2 | ⟨hr0, hr1, hr2⟩
          · go_wp2_with fail
            go_ret
            exact ⟨⟨-1, rfl, .inl (by omega)⟩, hb1⟩
          · have hnn : ¬ r < 0 := by omega
            have HSZ : Hid (szDn l[k]) := hr2
            clear hr2
            go_wp2_with fail
            go_roundw
            case rel => exact ⟨k + 1, by omega, by go_num, r, rfl, by omega, by have hsn := sumN_take (fun x => cntR x.rs + x.cs.length) l k hlt; (try dsimp only at hsn); omega, take_allDn _ l k hlt HA.out HSZ.out, hb1⟩
            case measure => simp [intOf]; omega
      · have hlt2 : ¬ (k : Int) < (l.length : Int) := by omega
        go_wp2_with fail
        go_ret
        exact ⟨⟨c, rfl, .inr ⟨hc0, by rw [List.take_of_length_le (by omega)] at hc1; unfold cntD; omega, by omega, by have := HA.out; rw [List.take_of_length_le (by omega)] at this; exact this⟩⟩, hbel⟩

end Go.Proofs.YtcggkeleaepebaaGreatDoor.Ce

/- Rows made by the laws' helpers, with the types of their blocks. -/
namespace Go.Proofs.YtcggkeleaepebaaGreatDoor.Ty
open Go.RowKit Go.ChangeShapes Go.WideShapes Go.ChangeAt Go.Joins Tr Co Rea Ce
set_option linter.unusedVariables false

/-- A block of cells of a type, none of them marked. -/
def Blk (w : World) (g : Nat) (T : TypeId) (n : Nat) : Prop := ∃ vs, w.heap[g]? = some (.cells vs T (0, 0)) ∧ n ≤ vs.size
theorem Blk.keep {w w' : World} {g n : Nat} {T : TypeId} (h : Blk w g T n) (e : w'.heap[g]? = w.heap[g]?) : Blk w' g T n := by
  obtain ⟨vs, h1, h2⟩ := h
  exact ⟨vs, e.trans h1, h2⟩
theorem Blk.of_own {w : World} {base g cap n size : Nat} {T : TypeId} {xs : List Value} (h : w.ownsRow base T size (.slice (some ⟨g, 0, none⟩) n cap) n xs) : Blk w g T (n * size) := by
  rcases h.2 with ⟨h1, _⟩ | ⟨g', cap', cur, hv, _, hh, h3, _, h5, _⟩
  · cases h1
  · injection hv with e1 e2 e3
    injection e1 with e1
    injection e1 with e1
    subst e1
    exact ⟨cur, hh, by rw [h5]; exact Nat.mul_le_mul_right _ h3⟩
structure ReadT (w : World) (g : Nat) (l : List Trm) : Prop where
  lt : g < w.heap.size
  cells : ∀ i (h : i < l.length), w.cell? ⟨g, i * 5, none⟩ = some (.int .i64 l[i].op) ∧ w.cell? ⟨g, i * 5 + 1, none⟩ = some (.string l[i].p) ∧ w.cell? ⟨g, i * 5 + 2, none⟩ = some (.int .i64 l[i].c.k) ∧ w.cell? ⟨g, i * 5 + 3, none⟩ = some (.int .i64 l[i].c.n) ∧ w.cell? ⟨g, i * 5 + 4, none⟩ = some (.string l[i].c.t)
  blk : Blk w g 144 (l.length * 5)
theorem ReadT.old {w : World} {g : Nat} {l : List Trm} (h : ReadT w g l) : Go.Proofs.YtcggkeleaepebaaGreatDoor.ReadT w g l := ⟨h.lt, h.cells⟩
theorem ReadT.next {w w' : World} {g : Nat} {l : List Trm} (h : ReadT w g l) (hb : Below w.heap.size w w') : ReadT w' g l :=
  ⟨(h.old.next hb).lt, (h.old.next hb).cells, h.blk.keep (hb.block g h.lt)⟩
theorem ReadT.grown {w w' : World} {g : Nat} {l : List Trm} {row : Option Nat} (h : ReadT w g l) (hg : w.grownBy w' row) (hne : some g ≠ row) : ReadT w' g l :=
  ⟨(h.old.grown hg hne).lt, (h.old.grown hg hne).cells, h.blk.keep (hg.block g h.lt hne)⟩
theorem ReadT.of_own {w : World} {base g cap : Nat} {l : List Trm} (h : w.ownsRow base 144 5 (.slice (some ⟨g, 0, none⟩) l.length cap) l.length (flatT l)) : ReadT w g l :=
  ⟨(Go.Proofs.YtcggkeleaepebaaGreatDoor.ReadT.of_own h).lt, (Go.Proofs.YtcggkeleaepebaaGreatDoor.ReadT.of_own h).cells, Blk.of_own h⟩
structure MadeC (w : World) (base g : Nat) (f : List (List Trm)) : Prop where
  ge : base ≤ g
  lt : g < w.heap.size
  cells : ∀ i (h : i < f.length), ∃ gi cap, w.cell? ⟨g, i, none⟩ = some (.slice (some ⟨gi, 0, none⟩) f[i].length cap) ∧ base ≤ gi ∧ ReadT w gi f[i]
  blk : Blk w g 109 f.length
theorem MadeC.old {w : World} {base g : Nat} {f : List (List Trm)} (h : MadeC w base g f) : Go.Proofs.YtcggkeleaepebaaGreatDoor.MadeC w base g f := ⟨h.ge, h.lt, fun i hi => by
    obtain ⟨gi, cap, h1, h2, h3⟩ := h.cells i hi
    exact ⟨gi, cap, h1, h2, h3.old⟩⟩
theorem MadeC.set {w : World} {base g b o : Nat} {v : Value} {f : List (List Trm)} (h : MadeC w base g f) (hb : b < base) : MadeC (w.setCell ⟨b, o, none⟩ v) base g f :=
  ⟨h.ge, by simpa [World.setCell] using h.lt, fun i hi => by
    obtain ⟨gi, cap, h1, h2, h3⟩ := h.cells i hi
    have hg : w.grownBy (w.setCell ⟨b, o, none⟩ v) (some b) := grown_setC
    refine ⟨gi, cap, ?_, h2, h3.grown hg (fun e => by injection e; omega)⟩
    have := h.ge
    exact (World.cell?_of_block (hg.block g h.lt (fun e => by injection e; omega))).trans h1, h.blk.keep ((grown_setC (w := w) (g := b) (o := o) (v := v)).block g h.lt (fun e => by injection e; have := h.ge; omega))⟩
theorem madeR_next {w w' : World} {base g : Nat} {f : List (List Trm)} (h : MadeC w base g f) (hb : Below w.heap.size w w') : MadeC w' base g f :=
  ⟨h.ge, Nat.lt_of_lt_of_le h.lt hb.size, fun i hi => by
    obtain ⟨gi, cap, h1, h2, h3⟩ := h.cells i hi
    exact ⟨gi, cap, (hb.cell h.lt).trans h1, h2, h3.next hb⟩, h.blk.keep (hb.block g h.lt)⟩
theorem madeR_mono {w : World} {base base' g : Nat} {f : List (List Trm)} (h : MadeC w base g f) (hb : base' ≤ base) : MadeC w base' g f :=
  ⟨Nat.le_trans hb h.ge, h.lt, fun i hi => by
    obtain ⟨gi, cap, h1, h2, h3⟩ := h.cells i hi
    exact ⟨gi, cap, h1, Nat.le_trans hb h2, h3⟩, h.blk⟩
def partC (w : World) (base : Nat) (xs : List Value) (f : List (List Trm)) (k : Nat) : Prop := ∀ i (h : i < f.length), i < k → ∃ g cap, xs[i]? = some (.slice (some ⟨g, 0, none⟩) f[i].length cap) ∧ base < g ∧ ReadT w g f[i]
set_option maxRecDepth 4000 in
set_option maxHeartbeats 1000000 in
theorem toTermS_any (a : Option Addr) (cap : Nat) (l : List Trm) (w : World) (hin : InT w a l) (hlen : l.length ≤ 1048576) :
    Calls Tryz.prog 133 #[.slice a l.length cap] w fun e w' => (∃ g, e = .returned (.slice (some ⟨g, 0, none⟩) l.length l.length) ∧ w.heap.size ≤ g ∧ ReadT w' g l) ∧ Below w.heap.size w w' := by
  obtain ⟨i0, hi, hz0, hz1, hz2⟩ := info_parts infoT
  have HI : Hid _ := hin
  clear hin
  go_enter Tryz.func133, Tryz.ntmps133
  go_wp2_with (refine wpList_make_full _ rfl (.tmp 6) (.tmp 6) 107 rfl w.heap.size 144 i0 (.agg #[.int .i64 0, .string em, .int .i64 0, .int .i64 0, .string em]) 5 Tryz.underlying107 hi hz0 hz1 .i64 .i64 _ _ l.length rfl rfl rfl rfl (by rw [hz2]; omega) (by unfold maxLen; omega) (Nat.le_refl _) ?_; intro w1 hown1 hgrow1)
  have hb1 : Below w.heap.size w w1 := Below.grown (Below.refl _ _) hgrow1 (Nat.le_refl _) (fun k h => by cases h)
  have hz : w.heap.size < w1.heap.size := (World.ownsRow.lt hown1 w.heap.size rfl).2
  rw [made_zeroT, show List.replicate l.length zt = mixT l 0 from by simp [mixT]] at hown1
  clear hgrow1
  go_loopw [4] (fun i wr => ∃ k : Nat, k ≤ l.length ∧ i = .int .i64 k ∧ wr.ownsRow w.heap.size 144 5 (.slice (some ⟨w.heap.size, 0, none⟩) l.length l.length) l.length (flatT (mixT l k)) ∧ Below w.heap.size w wr) (fun i _ => l.length - (intOf i).toNat)
  case atStart => exact ⟨0, Nat.zero_le _, rfl, hown1, hb1⟩
  case round =>
    obtain ⟨k, hk, rfl, hown, hbel⟩ := hrel
    clear hown1 hb1 hz
    by_cases hlt : k < l.length
    · rcases HI.out with h0 | ⟨b, off, rfl, hbl, hc⟩
      · omega
      · have hlt2 : (k : Int) < (l.length : Int) := by omega
        have x0 := (hbel.cell hbl).trans (hc k hlt).1
        have x1 := (hbel.cell hbl).trans (hc k hlt).2.1
        have x2 := (hbel.cell hbl).trans (hc k hlt).2.2.1
        have x3 := (hbel.cell hbl).trans (hc k hlt).2.2.2.1
        have x4 := (hbel.cell hbl).trans (hc k hlt).2.2.2.2
        have hz := hbel.size
        have HO : Hid (World.ownsRow _ _ _ _ _ _ _) := hown
        have HB : Hid _ := hbel
        have hgl : w.heap.size < wr.heap.size := (hown.lt _ rfl).2
        clear hc hown hbel
        go_wp2_with fail
        refine (toTerm_any _ _ _ _ _ _).mono ?_
        rintro e w2 ⟨rfl, hb2⟩
        have hown2 := owns_below HO.out hb2
        have hm := mixT_len l k hk
        have hg := flatT_get (mixT l k) k (by omega)
        obtain ⟨z0, y0⟩ : ∃ u, w2.cell? ⟨w.heap.size, k * 5, none⟩ = some u := ⟨_, owns_cell hown2 _ _ hg.1⟩
        obtain ⟨z1, y1⟩ : ∃ u, w2.cell? ⟨w.heap.size, k * 5 + 1, none⟩ = some u := ⟨_, owns_cell hown2 _ _ hg.2.1⟩
        obtain ⟨z2, y2⟩ : ∃ u, w2.cell? ⟨w.heap.size, k * 5 + 2, none⟩ = some u := ⟨_, owns_cell hown2 _ _ hg.2.2.1⟩
        obtain ⟨z3, y3⟩ : ∃ u, w2.cell? ⟨w.heap.size, k * 5 + 3, none⟩ = some u := ⟨_, owns_cell hown2 _ _ hg.2.2.2.1⟩
        obtain ⟨z4, y4⟩ : ∃ u, w2.cell? ⟨w.heap.size, k * 5 + 4, none⟩ = some u := ⟨_, owns_cell hown2 _ _ hg.2.2.2.2⟩
        have f0 := World.ownsRow.frozenAt hown2 (k * 5)
        have f1 := World.ownsRow.frozenAt hown2 (k * 5 + 1)
        have f2 := World.ownsRow.frozenAt hown2 (k * 5 + 2)
        have f3 := World.ownsRow.frozenAt hown2 (k * 5 + 3)
        have f4 := World.ownsRow.frozenAt hown2 (k * 5 + 4)
        have hst := (World.ownsRow.stored (World.ownsRow.stored (World.ownsRow.stored (World.ownsRow.stored (World.ownsRow.stored hown2 (k * 5) (.int .i64 l[k].op)).1 (k * 5 + 1) (.string l[k].p)).1 (k * 5 + 2) (.int .i64 l[k].c.k)).1 (k * 5 + 3) (.int .i64 l[k].c.n)).1 (k * 5 + 4) (.string l[k].c.t)).1
        rw [flatT_set _ _ _ (by omega), mixT_set l k hlt] at hst
        have HS : Hid (World.ownsRow _ _ _ _ _ _ _) := hst
        have HB2 : Hid _ := HB.out.trans (hb2.mono HB.out.size)
        have hz2 := hb2.size
        clear hst hown2 hg hm hb2
        go_wp2_with fail
        go_roundw
        case rel => exact ⟨k + 1, by omega, by go_num, HS.out, ((((HB2.out.setCell (Nat.le_refl _) _).setCell (Nat.le_refl _) _).setCell (Nat.le_refl _) _).setCell (Nat.le_refl _) _).setCell (Nat.le_refl _) _⟩
        case measure => simp [intOf]; omega
    · have hlt2 : ¬ (k : Int) < (l.length : Int) := by omega
      go_wp2_with fail
      go_ret
      rw [mixT_full l k (by omega)] at hown
      exact ⟨⟨w.heap.size, rfl, Nat.le_refl _, ReadT.of_own hown⟩, hbel⟩

set_option maxRecDepth 4000 in
set_option maxHeartbeats 1000000 in
theorem toClause_any (a : Option Addr) (cap : Nat) (l : List Trm) (w : World) (hin : InT w a l) (hlen : l.length ≤ 1048576) :
    Calls Tryz.prog 117 #[.agg #[.slice a l.length cap]] w fun e w' => (∃ g, e = .returned (.agg #[.slice (some ⟨g, 0, none⟩) l.length l.length]) ∧ w.heap.size ≤ g ∧ ReadT w' g l) ∧ Below w.heap.size w w' := by
  have hb0 : Below w.heap.size w (((w.alloc (.cells #[.slice a l.length cap] 148)).alloc (.cells #[.slice none 0 0] 109)).alloc (.cells #[.slice none 0 0] 109)) := (((Below.refl _ _).alloc (Nat.le_refl _) _).alloc (by simp) _).alloc (by simp; omega) _
  have HC : Hid (Calls _ _ _ _ _) := toTermS_any a cap l _ (hin.step hb0) hlen
  clear hin
  go_enter Tryz.func117, Tryz.ntmps117
  go_wp2_with fail
  refine HC.out.mono ?_
  rintro e w1 ⟨⟨g, rfl, hg, hR⟩, hb⟩
  obtain ⟨hc, hf⟩ := bcell hb
  have hz : w.heap.size + 2 < w1.heap.size := by have := hb.size; simp at this; omega
  have hbw : Below w.heap.size w w1 := hb0.trans (hb.mono (by simp; omega))
  simp at hg
  have HR : Hid (ReadT _ _ _) := hR
  clear hb HC hR hb0
  go_wp2_with fail
  refine bodyPost_ret (v := .agg #[.slice (some ⟨g, 0, none⟩) l.length l.length]) (by simp [results, Tryz.results117, go_sem, *]) rfl ⟨⟨g, rfl, by omega, ?_⟩, ?_⟩
  · exact (HR.out.grown grown_setC (fun e => by injection e; omega)).grown grown_setC (fun e => by injection e; omega)
  · (repeat (first | (with_reducible exact Below.refl _ _) | (with_reducible assumption) | (with_reducible apply below_drewN) | (with_reducible apply Below.drew) | ((with_reducible refine Below.setCell ?_ ?_ _); rotate_left; focus (first | (simp; done) | (simp; omega) | omega)) | ((with_reducible refine Below.alloc ?_ ?_ _); rotate_left; focus (first | (simp; done) | (simp; omega) | omega))))

set_option maxRecDepth 4000 in
set_option maxHeartbeats 1000000 in
theorem toClauseS_any (a : Option Addr) (cap : Nat) (f : List (List Trm)) (w : World) (hin : InCl w a f) (hlen : f.length ≤ 1048576) (hs : ∀ l ∈ f, l.length ≤ 1048576) :
    Calls Tryz.prog 99 #[.slice a f.length cap] w fun e w' => (∃ g, e = .returned (.slice (some ⟨g, 0, none⟩) f.length f.length) ∧ MadeC w' w.heap.size g f) ∧ Below w.heap.size w w' := by
  obtain ⟨i0, hi, hz0, hz1, hz2⟩ := info_parts infoC
  have HI : Hid (InCl _ _ _) := hin
  have HS : Hid _ := hs
  clear hin hs
  go_enter Tryz.func99, Tryz.ntmps99
  go_wp2_with (refine wpList_make_full _ rfl (.tmp 6) (.tmp 6) 76 rfl w.heap.size 109 i0 (.agg #[.slice none 0 0]) 1 Tryz.underlying76 hi hz0 hz1 .i64 .i64 _ _ f.length rfl rfl rfl rfl (by rw [hz2]; omega) (by unfold maxLen; omega) (Nat.le_refl _) ?_; intro w1 hown1 hgrow1)
  have hb1 : Below w.heap.size w w1 := Below.grown (Below.refl _ _) hgrow1 (Nat.le_refl _) (fun k h => by cases h)
  clear hgrow1
  go_loopw [4] (fun i wr => ∃ (k : Nat) (xs : List Value), k ≤ f.length ∧ i = .int .i64 k ∧ wr.ownsRow w.heap.size 109 1 (.slice (some ⟨w.heap.size, 0, none⟩) f.length f.length) f.length xs ∧ partC wr w.heap.size xs f k ∧ Below w.heap.size w wr) (fun i _ => f.length - (intOf i).toNat)
  case atStart => exact ⟨0, _, Nat.zero_le _, rfl, hown1, fun i h hi => absurd hi (by omega), hb1⟩
  case round =>
    obtain ⟨k, xs, hk, rfl, hown, hpart, hbel⟩ := hrel
    clear hown1 hb1
    by_cases hlt : k < f.length
    · rcases HI.out.step hbel with h0 | ⟨b, off, rfl, hbl, hc⟩
      · omega
      · have hlt2 : (k : Int) < (f.length : Int) := by omega
        obtain ⟨p, pc, x0, hT⟩ := hc k hlt
        have HC : Hid (Calls _ _ _ _ _) := toClause_any p pc f[k] wr hT (HS.out f[k] (List.getElem_mem _))
        have hz := hbel.size
        have HO : Hid (World.ownsRow _ _ _ _ _ _ _) := hown
        have HP : Hid (partC _ _ _ _ _) := hpart
        have HB : Hid _ := hbel
        have hgl : w.heap.size < wr.heap.size := (hown.lt _ rfl).2
        clear hc hown hbel hT hpart
        go_wp2_with fail
        refine HC.out.mono ?_
        rintro e w2 ⟨⟨g2, rfl, hg2, hR2⟩, hb2⟩
        have hown2 := owns_below HO.out hb2
        have hxl := flatC_one hown2
        obtain ⟨z0, y0⟩ := own_thereC hown2 k (by omega)
        have f0 := World.ownsRow.frozenAt hown2 k
        have hst := (World.ownsRow.stored hown2 k (.slice (some ⟨g2, 0, none⟩) f[k].length f[k].length)).1
        have hpart2 : partC (w2.setCell ⟨w.heap.size, k, none⟩ (.slice (some ⟨g2, 0, none⟩) f[k].length f[k].length)) w.heap.size (xs.set k (.slice (some ⟨g2, 0, none⟩) f[k].length f[k].length)) f (k + 1) := by
          intro i h hi
          by_cases hik : i = k
          · subst hik
            exact ⟨g2, f[i].length, by rw [List.getElem?_set_self (by omega)], by omega, hR2.grown grown_setC (fun e => by injection e; omega)⟩
          · obtain ⟨g, c, e1, e2, e3⟩ := HP.out i h (by omega)
            exact ⟨g, c, by rw [List.getElem?_set_ne (fun e => hik e.symm)]; exact e1, e2, (e3.next hb2).grown grown_setC (fun e => by injection e; omega)⟩
        have HST : Hid (World.ownsRow _ _ _ _ _ _ _) := hst
        have HPA : Hid (partC _ _ _ _ _) := hpart2
        have HB2 : Hid _ := HB.out.trans (hb2.mono HB.out.size)
        have hz2 := hb2.size
        clear hst hown2 hb2 hpart2 hR2 HC
        go_wp2_with fail
        go_roundw
        case rel => exact ⟨k + 1, _, by omega, by go_num, HST.out, HPA.out, HB2.out.setCell (Nat.le_refl _) _⟩
        case measure => simp [intOf]; omega
    · have hlt2 : ¬ (k : Int) < (f.length : Int) := by omega
      have hR : MadeC wr w.heap.size w.heap.size f := ⟨Nat.le_refl _, (hown.lt _ rfl).2, fun i hi => by
        obtain ⟨g, c, e1, e2, e3⟩ := hpart i hi (by omega)
        exact ⟨g, c, owns_cell hown i _ e1, by omega, e3⟩, by have hbk := Blk.of_own hown; rw [Nat.mul_one] at hbk; exact hbk⟩
      have HR : Hid (MadeC _ _ _ _) := hR
      clear hR hpart hown
      go_wp2_with fail
      go_ret
      exact ⟨⟨w.heap.size, rfl, HR.out⟩, hbel⟩

set_option maxRecDepth 4000 in
set_option maxHeartbeats 1000000 in
theorem filterMade_any (a : Option Addr) (cap : Nat) (f : List (List Trm)) (w : World) (hin : InCl w a f) (hlen : f.length ≤ 1048576) (hs : ∀ l ∈ f, l.length ≤ 1048576) :
    Calls Tryz.prog 72 #[.agg #[.slice a f.length cap]] w fun e w' => (∃ g, e = .returned (.agg #[.slice (some ⟨g, 0, none⟩) f.length f.length]) ∧ MadeC w' w.heap.size g f) ∧ Below w.heap.size w w' := by
  have hb0 : Below w.heap.size w (((w.alloc (.cells #[.slice a f.length cap] 62)).alloc (.cells #[.slice none 0 0] 78)).alloc (.cells #[.slice none 0 0] 78)) := (((Below.refl _ _).alloc (Nat.le_refl _) _).alloc (by simp) _).alloc (by simp; omega) _
  have HC : Hid (Calls _ _ _ _ _) := toClauseS_any a cap f _ (hin.step hb0) hlen hs
  clear hin hs
  go_enter Tryz.func72, Tryz.ntmps72
  go_wp2_with fail
  refine HC.out.mono ?_
  rintro e w1 ⟨⟨g, rfl, hR⟩, hb⟩
  obtain ⟨hc, hf⟩ := Go.Proofs.YtcggkeleaepebaaGreatDoor.bcell hb
  have hz : w.heap.size + 2 < w1.heap.size := by have := hb.size; simp at this; omega
  have hbw : Below w.heap.size w w1 := hb0.trans (hb.mono (by simp; omega))
  simp at hR
  have HR : Hid (MadeC _ _ _ _) := hR
  clear hb HC hR hb0
  go_wp2_with fail
  refine bodyPost_ret (v := .agg #[.slice (some ⟨g, 0, none⟩) f.length f.length]) (by simp [results, Tryz.results72, go_sem, *]) rfl ⟨⟨g, rfl, ?_⟩, ?_⟩
  · exact madeR_mono ((HR.out.set (by omega)).set (by omega)) (by omega)
  · (repeat (first | (with_reducible exact Below.refl _ _) | (with_reducible assumption) | (with_reducible apply below_drewN) | (with_reducible apply Below.drew) | ((with_reducible refine Below.setCell ?_ ?_ _); rotate_left; focus (first | (simp; done) | (simp; omega) | omega)) | ((with_reducible refine Below.alloc ?_ ?_ _); rotate_left; focus (first | (simp; done) | (simp; omega) | omega))))
set_option maxRecDepth 4000 in
set_option maxHeartbeats 1000000 in
theorem toRead_any (s : ByteArray) (p : Option Addr) (cap : Nat) (f : List (List Trm)) (w : World) (hin : InCl w p f) (hs : SzR s f) :
    Calls Tryz.prog 46 #[.agg #[.string s, .slice p f.length cap]] w fun e w' => (∃ g, e = .returned (.agg #[.string s, .slice (some ⟨g, 0, none⟩) f.length f.length]) ∧ MadeC w' w.heap.size g f) ∧ Below w.heap.size w w' := by
  have M0 := MkR.start w (.string s) (.slice p f.length cap) (.string em) (.slice none 0 0) (.string s) (.slice none 0 0) 64 80 80
  have HC : Hid (Calls _ _ _ _ _) := filterMade_any p cap f _ (hin.step M0.bel) hs.f0 hs.len
  clear hin hs
  go_enter Tryz.func46, Tryz.ntmps46
  go_wp2_with fail
  refine HC.out.mono ?_
  rintro e w1 ⟨⟨g, rfl, hR⟩, hb⟩
  have HR : Hid (MadeC _ _ _ _) := madeR_mono (base' := w.heap.size + 3) hR (by simp)
  obtain ⟨mb, ml, c0, c1, d0, d1, e0, e1, mdf, mef⟩ := M0.next hb
  clear hb HC hR M0
  go_wp2_with fail
  refine bodyPost_ret (v := .agg #[.string s, .slice (some ⟨g, 0, none⟩) f.length f.length]) (by simp [results, Tryz.results46, go_sem, *]) rfl ⟨⟨g, rfl, ?_⟩, ?_⟩
  · exact madeR_mono (((HR.out.set (by omega)).set (by omega)).set (by omega)) (by omega)
  · (repeat (first | (with_reducible exact Below.refl _ _) | (with_reducible assumption) | (with_reducible apply below_drewN) | (with_reducible apply Below.drew) | ((with_reducible refine Below.setCell ?_ ?_ _); rotate_left; focus (first | (simp; done) | (simp; omega) | omega)) | ((with_reducible refine Below.alloc ?_ ?_ _); rotate_left; focus (first | (simp; done) | (simp; omega) | omega))))
structure MadeRd (w : World) (base g : Nat) (l : List Rdg) : Prop where
  ge : base ≤ g
  lt : g < w.heap.size
  cells : ∀ i (h : i < l.length), w.cell? ⟨g, i * 2, none⟩ = some (.string l[i].coll) ∧ ∃ gi, w.cell? ⟨g, i * 2 + 1, none⟩ = some (.slice (some ⟨gi, 0, none⟩) l[i].f.length l[i].f.length) ∧ MadeC w base gi l[i].f
  blk : Blk w g 80 (l.length * 2)
theorem MadeRd.old {w : World} {base g : Nat} {l : List Rdg} (h : MadeRd w base g l) : Rea.MadeRd w base g l := ⟨h.ge, h.lt, fun i hi => by
    obtain ⟨h0, gi, h1, h2⟩ := h.cells i hi
    exact ⟨h0, gi, h1, h2.old⟩⟩
theorem MadeRd.next {w w' : World} {base g : Nat} {l : List Rdg} (h : MadeRd w base g l) (hb : Below w.heap.size w w') : MadeRd w' base g l :=
  ⟨h.ge, Nat.lt_of_lt_of_le h.lt hb.size, fun i hi => by
    obtain ⟨h0, gi, h1, h2⟩ := h.cells i hi
    exact ⟨(hb.cell h.lt).trans h0, gi, (hb.cell h.lt).trans h1, madeR_next h2 hb⟩, h.blk.keep (hb.block g h.lt)⟩
theorem MadeRd.mono {w : World} {base base' g : Nat} {l : List Rdg} (h : MadeRd w base g l) (hb : base' ≤ base) : MadeRd w base' g l :=
  ⟨Nat.le_trans hb h.ge, h.lt, fun i hi => by
    obtain ⟨h0, gi, h1, h2⟩ := h.cells i hi
    exact ⟨h0, gi, h1, madeR_mono h2 hb⟩, h.blk⟩
theorem MadeRd.set {w : World} {base g b o : Nat} {v : Value} {l : List Rdg} (h : MadeRd w base g l) (hb : b < base) : MadeRd (w.setCell ⟨b, o, none⟩ v) base g l :=
  ⟨h.ge, by simpa [World.setCell] using h.lt, fun i hi => by
    obtain ⟨h0, gi, h1, h2⟩ := h.cells i hi
    have hg : w.grownBy (w.setCell ⟨b, o, none⟩ v) (some b) := grown_setC
    have hge := h.ge
    have hbk := hg.block g h.lt (fun e => by injection e; omega)
    exact ⟨(World.cell?_of_block (a := ⟨g, i * 2, none⟩) hbk).trans h0, gi, (World.cell?_of_block (a := ⟨g, i * 2 + 1, none⟩) hbk).trans h1, h2.set hb⟩, h.blk.keep ((grown_setC (w := w) (g := b) (o := o) (v := v)).block g h.lt (fun e => by injection e; have := h.ge; omega))⟩
def partRd (w : World) (base : Nat) (xs : List Value) (l : List Rdg) (k : Nat) : Prop := ∀ i (h : i < l.length), i < k → xs[i * 2]? = some (.string l[i].coll) ∧ ∃ g, xs[i * 2 + 1]? = some (.slice (some ⟨g, 0, none⟩) l[i].f.length l[i].f.length) ∧ MadeC w (base + 1) g l[i].f
set_option maxRecDepth 4000 in
set_option maxHeartbeats 2000000 in
theorem toReadS_any (a : Option Addr) (cap : Nat) (l : List Rdg) (w : World) (hin : InRd w a l) (hlen : l.length ≤ 1048576) (hs : ∀ v ∈ l, szRd v) :
    Calls Tryz.prog 24 #[.slice a l.length cap] w fun e w' => (∃ g, e = .returned (.slice (some ⟨g, 0, none⟩) l.length l.length) ∧ MadeRd w' w.heap.size g l) ∧ Below w.heap.size w w' := by
  obtain ⟨i0, hi, hz0, hz1, hz2⟩ := info_parts infoR
  have HI : Hid (InRd _ _ _) := hin
  have HS : Hid (∀ v ∈ l, szRd v) := hs
  clear hin hs
  go_enter Tryz.func24, Tryz.ntmps24
  go_wp2_with (refine wpList_make_full _ rfl (.tmp 6) (.tmp 6) 33 rfl w.heap.size 80 i0 (.agg #[.string em, .slice none 0 0]) 2 Tryz.underlying33 hi hz0 hz1 .i64 .i64 _ _ l.length rfl rfl rfl rfl (by rw [hz2]; omega) (by unfold maxLen; omega) (Nat.le_refl _) ?_; intro w1 hown1 hgrow1)
  have hb1 : Below w.heap.size w w1 := Below.grown (Below.refl _ _) hgrow1 (Nat.le_refl _) (fun k h => by cases h)
  clear hgrow1
  go_loopw [4] (fun i wr => ∃ (k : Nat) (xs : List Value), k ≤ l.length ∧ i = .int .i64 k ∧ wr.ownsRow w.heap.size 80 2 (.slice (some ⟨w.heap.size, 0, none⟩) l.length l.length) l.length xs ∧ partRd wr w.heap.size xs l k ∧ Below w.heap.size w wr) (fun i _ => l.length - (intOf i).toNat)
  case atStart => exact ⟨0, _, Nat.zero_le _, rfl, hown1, fun i h hi => absurd hi (by omega), hb1⟩
  case round =>
    obtain ⟨k, xs, hk, rfl, hown, hpart, hbel⟩ := hrel
    clear hown1 hb1
    by_cases hlt : k < l.length
    · rcases HI.out.step hbel with h0 | ⟨b, off, rfl, hbl, hc⟩
      · omega
      · have hlt2 : (k : Int) < (l.length : Int) := by omega
        obtain ⟨x0, p, pc, x1, hT⟩ := hc k hlt
        have HC : Hid (Calls _ _ _ _ _) := toRead_any l[k].coll p pc l[k].f wr hT (HS.out l[k] (List.getElem_mem _))
        have hz := hbel.size
        have HO : Hid (World.ownsRow _ _ _ _ _ _ _) := hown
        have HP : Hid (partRd _ _ _ _ _) := hpart
        have HB : Hid (Below _ _ _) := hbel
        have hgl : w.heap.size < wr.heap.size := (hown.lt _ rfl).2
        clear hc hown hbel hT hpart
        go_wp2_with fail
        refine HC.out.mono ?_
        rintro e w2 ⟨⟨g2, rfl, hR2⟩, hb2⟩
        have hown2 := owns_below HO.out hb2
        have hxl : xs.length = l.length * 2 := hown2.1
        obtain ⟨z0, y0⟩ := Tr.own_there hown2 (k * 2) (by omega)
        obtain ⟨z1, y1⟩ := Tr.own_there hown2 (k * 2 + 1) (by omega)
        have f0 := World.ownsRow.frozenAt hown2 (k * 2)
        have f1 := World.ownsRow.frozenAt hown2 (k * 2 + 1)
        have hst := (World.ownsRow.stored (World.ownsRow.stored hown2 (k * 2) (.string l[k].coll)).1 (k * 2 + 1) (.slice (some ⟨g2, 0, none⟩) l[k].f.length l[k].f.length)).1
        have hpart2 : partRd ((w2.setCell ⟨w.heap.size, k * 2, none⟩ (.string l[k].coll)).setCell ⟨w.heap.size, k * 2 + 1, none⟩ (.slice (some ⟨g2, 0, none⟩) l[k].f.length l[k].f.length)) w.heap.size ((xs.set (k * 2) (.string l[k].coll)).set (k * 2 + 1) (.slice (some ⟨g2, 0, none⟩) l[k].f.length l[k].f.length)) l (k + 1) := by
          intro i h hi
          by_cases hik : i = k
          · subst hik
            refine ⟨by rw [List.getElem?_set_ne (by omega), List.getElem?_set_self (by omega)], g2, by rw [List.getElem?_set_self (by rw [List.length_set]; omega)], ?_⟩
            exact ((madeR_mono hR2 (by omega)).set (by omega)).set (by omega)
          · obtain ⟨e0, g, e1, e2⟩ := HP.out i h (by omega)
            refine ⟨by rw [List.getElem?_set_ne (by omega), List.getElem?_set_ne (by omega)]; exact e0, g, by rw [List.getElem?_set_ne (by omega), List.getElem?_set_ne (by omega)]; exact e1, ?_⟩
            exact ((madeR_next e2 hb2).set (by omega)).set (by omega)
        have HST : Hid (World.ownsRow _ _ _ _ _ _ _) := hst
        have HPA : Hid (partRd _ _ _ _ _) := hpart2
        have HB2 : Hid (Below _ _ _) := HB.out.trans (hb2.mono HB.out.size)
        have hz2 := hb2.size
        clear hst hown2 hb2 hpart2 hR2 HC
        go_wp2_with fail
        go_roundw
        case rel => exact ⟨k + 1, _, by omega, by go_num, HST.out, HPA.out, (HB2.out.setCell (Nat.le_refl _) _).setCell (Nat.le_refl _) _⟩
        case measure => simp [intOf]; omega
    · have hlt2 : ¬ (k : Int) < (l.length : Int) := by omega
      have hR : MadeRd wr w.heap.size w.heap.size l := ⟨Nat.le_refl _, (hown.lt _ rfl).2, fun i hi => by
        obtain ⟨e0, g, e1, e2⟩ := hpart i hi (by omega)
        exact ⟨owns_cell hown _ _ e0, g, owns_cell hown _ _ e1, madeR_mono e2 (by omega)⟩, Blk.of_own hown⟩
      have HR : Hid (MadeRd _ _ _ _) := hR
      clear hR hpart hown
      go_wp2_with fail
      go_ret
      exact ⟨⟨w.heap.size, rfl, HR.out⟩, hbel⟩
structure ReadCg (w : World) (g : Nat) (l : List Cgr) : Prop where
  lt : g < w.heap.size
  cells : ∀ i (h : i < l.length), w.cell? ⟨g, i * 10, none⟩ = some (.string l[i].wr.coll) ∧ w.cell? ⟨g, i * 10 + 1, none⟩ = some (.int .i64 l[i].wr.id) ∧ w.cell? ⟨g, i * 10 + 2, none⟩ = some (.bool l[i].wr.gone) ∧ w.cell? ⟨g, i * 10 + 3, none⟩ = some (.int .i64 l[i].wr.doc.k) ∧ w.cell? ⟨g, i * 10 + 4, none⟩ = some (.int .i64 l[i].wr.doc.n) ∧ w.cell? ⟨g, i * 10 + 5, none⟩ = some (.string l[i].wr.doc.t) ∧ w.cell? ⟨g, i * 10 + 6, none⟩ = some (.int .i64 l[i].bef.k) ∧ w.cell? ⟨g, i * 10 + 7, none⟩ = some (.int .i64 l[i].bef.n) ∧ w.cell? ⟨g, i * 10 + 8, none⟩ = some (.string l[i].bef.t) ∧ w.cell? ⟨g, i * 10 + 9, none⟩ = some (.bool l[i].was)
  blk : Blk w g 86 (l.length * 10)
theorem ReadCg.old {w : World} {g : Nat} {l : List Cgr} (h : ReadCg w g l) : Ce.ReadCg w g l := ⟨h.lt, h.cells⟩
theorem ReadCg.next {w w' : World} {g : Nat} {l : List Cgr} (h : ReadCg w g l) (hb : Below w.heap.size w w') : ReadCg w' g l :=
  ⟨(h.old.next hb).lt, (h.old.next hb).cells, h.blk.keep (hb.block g h.lt)⟩
theorem ReadCg.of_own {w : World} {base g cap : Nat} {l : List Cgr} (h : w.ownsRow base 86 10 (.slice (some ⟨g, 0, none⟩) l.length cap) l.length (flatCg l)) : ReadCg w g l :=
  ⟨(Ce.ReadCg.of_own h).lt, (Ce.ReadCg.of_own h).cells, Blk.of_own h⟩
theorem readCg_set {w : World} {g b o : Nat} {v : Value} {l : List Cgr} (h : ReadCg w g l) (hne : g ≠ b) : ReadCg (w.setCell ⟨b, o, none⟩ v) g l :=
  ⟨(Ce.readCg_set h.old hne).lt, (Ce.readCg_set h.old hne).cells, h.blk.keep ((grown_setC (w := w) (g := b) (o := o) (v := v)).block g h.lt (fun e => hne (by injection e)))⟩
set_option maxRecDepth 4000 in
set_option maxHeartbeats 4000000 in
theorem toDone_any (sn at_ : Int) (p1 p2 : Option Addr) (c1 c2 : Nat) (di do_ : Bool) (rs : List Rdg) (cs : List Cgr) (w : World) (h1 : InRd w p1 rs) (h2 : InCg w p2 cs) (hz : SzDn rs cs) :
    Calls Tryz.prog 9 #[.agg #[.int .i64 sn, .int .i64 at_, .slice p1 rs.length c1, .slice p2 cs.length c2, .bool di, .bool do_]] w fun e w' => (∃ g h, e = .returned (.agg #[.int .i64 sn, .int .i64 at_, .slice (some ⟨g, 0, none⟩) rs.length rs.length, .slice (some ⟨h, 0, none⟩) cs.length cs.length, .bool di, .bool do_]) ∧ MadeRd w' w.heap.size g rs ∧ ReadCg w' h cs ∧ w.heap.size ≤ h) ∧ Below w.heap.size w w' := by
  have M0 := MkDn.start2 w (.int .i64 sn) (.int .i64 at_) (.slice p1 rs.length c1) (.slice p2 cs.length c2) (.bool di) (.bool do_) (.int .i64 sn) (.int .i64 at_) (.slice none 0 0) (.slice none 0 0) (.bool false) (.bool false) 26 36
  have HI1 : Hid (InRd _ _ _) := h1
  have HI2 : Hid (InCg _ _ _) := h2
  have HZ : Hid (SzDn _ _) := hz
  clear h1 h2 hz
  go_enter Tryz.func9, Tryz.ntmps9
  go_wp2_with fail
  generalize ((w.alloc _).alloc _).alloc _ = W0 at M0 ⊢
  have hw0 := M0.lt
  refine (toReadS_any p1 c1 rs _ (HI1.out.step M0.bel) HZ.out.r0 HZ.out.r1).mono ?_
  rintro e w1 ⟨⟨g, rfl, hM1⟩, hb⟩
  have M1 := M0.next hb
  have HM1 : Hid (MadeRd _ _ _ _) := hM1.mono (base' := w.heap.size + 3) (by omega)
  obtain ⟨q0, q1, q2, q3, q4, q5⟩ := sixDn M1.pb
  obtain ⟨o0, o1, o2, o3, o4, o5⟩ := sixDn M1.ob
  have z2 := softDn M1.ob 2
  have hlt := M1.lt
  have hlp : w.heap.size < w1.heap.size := by omega
  have M1' := M1.set 2 (.slice (some ⟨g, 0, none⟩) rs.length rs.length)
  have HM1' : Hid (MadeRd _ _ _ _) := HM1.out.set (b := w.heap.size + 2) (o := 2) (v := .slice (some ⟨g, 0, none⟩) rs.length rs.length) (by omega)
  clear hb M0 hM1 M1 HM1 hw0
  go_wp2_with fail
  refine (toChangeS_any p2 c2 cs _ (HI2.out.step M1'.bel) HZ.out.s0).mono ?_
  rintro e w2 ⟨⟨h, rfl, hO2⟩, hb⟩
  have M2 := M1'.next hb
  have HM2 : Hid (MadeRd _ _ _ _) := HM1'.out.next hb
  have HR2 : Hid (ReadCg w2 h cs) := ReadCg.of_own hO2
  have hge : w.heap.size + 3 ≤ h := by have h0 := (hO2.lt h rfl).1; have := M1'.lt; omega
  clear hb hO2 HM1' M1' q0 q1 q2 q3 q4 q5 o0 o1 o2 o3 o4 o5 z2 hlt hlp
  obtain ⟨q0, q1, q2, q3, q4, q5⟩ := sixDn M2.pb
  obtain ⟨o0, o1, o2, o3, o4, o5⟩ := sixDn (show w2.heap[w.heap.size + 2]? = some (.cells #[.int .i64 sn, .int .i64 at_, .slice (some ⟨g, 0, none⟩) rs.length rs.length, .slice none 0 0, .bool false, .bool false] _) from M2.ob)
  obtain ⟨r0, r1, r2, r3, r4, r5⟩ := sixDn M2.rb
  have y0 := softDn M2.rb 0
  have y1 := softDn M2.rb 1
  have y2 := softDn M2.rb 2
  have y3 := softDn M2.rb 3
  have y4 := softDn M2.rb 4
  have y5 := softDn M2.rb 5
  have z0 := softDn M2.ob 0
  have z1 := softDn M2.ob 1
  have z2 := softDn M2.ob 2
  have z3 := softDn M2.ob 3
  have z4 := softDn M2.ob 4
  have z5 := softDn M2.ob 5
  have hlt := M2.lt
  have hlp : w.heap.size < w2.heap.size := by omega
  have hbw := M2.bel
  clear M2
  go_wp2_with fail
  refine bodyPost_ret (v := .agg #[.int .i64 sn, .int .i64 at_, .slice (some ⟨g, 0, none⟩) rs.length rs.length, .slice (some ⟨h, 0, none⟩) cs.length cs.length, .bool di, .bool do_]) (by simp [results, Tryz.results9, go_sem, *]) rfl ⟨⟨g, h, rfl, ?_, ?_, by omega⟩, ?_⟩
  · refine MadeRd.mono (base := w.heap.size + 3) ?_ (by omega)
    repeat (first | (with_reducible exact HM2.out) | (with_reducible refine MadeRd.set ?_ (by omega)))
  · repeat (first | (with_reducible exact HR2.out) | (with_reducible refine readCg_set ?_ (by omega)))
  · (repeat (first | (with_reducible exact Below.refl _ _) | (with_reducible assumption) | (with_reducible apply below_drewN) | (with_reducible apply Below.drew) | ((with_reducible refine Below.setCell ?_ ?_ _); rotate_left; focus (first | (simp; done) | (simp; omega) | omega)) | ((with_reducible refine Below.alloc ?_ ?_ _); rotate_left; focus (first | (simp; done) | (simp; omega) | omega))))

structure MadeDn (w : World) (base g : Nat) (l : List Dn) : Prop where
  ge : base ≤ g
  lt : g < w.heap.size
  cells : ∀ i (h : i < l.length), ∃ gr gc, (w.cell? ⟨g, i * 6, none⟩ = some (.int .i64 l[i].sn) ∧ w.cell? ⟨g, i * 6 + 1, none⟩ = some (.int .i64 l[i].at_) ∧ w.cell? ⟨g, i * 6 + 2, none⟩ = some (.slice (some ⟨gr, 0, none⟩) l[i].rs.length l[i].rs.length) ∧ w.cell? ⟨g, i * 6 + 3, none⟩ = some (.slice (some ⟨gc, 0, none⟩) l[i].cs.length l[i].cs.length) ∧ w.cell? ⟨g, i * 6 + 4, none⟩ = some (.bool l[i].di) ∧ w.cell? ⟨g, i * 6 + 5, none⟩ = some (.bool l[i].do_)) ∧ MadeRd w base gr l[i].rs ∧ ReadCg w gc l[i].cs ∧ base ≤ gc
  blk : Blk w g 36 (l.length * 6)
theorem MadeDn.old {w : World} {base g : Nat} {l : List Dn} (h : MadeDn w base g l) : Ce.MadeDn w base g l := ⟨h.ge, h.lt, fun i hi => by
    obtain ⟨gr, gc, x, y, z, u⟩ := h.cells i hi
    exact ⟨gr, gc, x, y.old, z.old, u⟩⟩
theorem MadeDn.next {w w' : World} {base g : Nat} {l : List Dn} (h : MadeDn w base g l) (hb : Below w.heap.size w w') : MadeDn w' base g l :=
  ⟨h.ge, Nat.lt_of_lt_of_le h.lt hb.size, fun i hi => by
    obtain ⟨gr, gc, ⟨x0, x1, x2, x3, x4, x5⟩, y, z, u⟩ := h.cells i hi
    exact ⟨gr, gc, ⟨(hb.cell h.lt).trans x0, (hb.cell h.lt).trans x1, (hb.cell h.lt).trans x2, (hb.cell h.lt).trans x3, (hb.cell h.lt).trans x4, (hb.cell h.lt).trans x5⟩, y.next hb, z.next hb, u⟩, h.blk.keep (hb.block g h.lt)⟩
theorem MadeDn.mono {w : World} {base base' g : Nat} {l : List Dn} (h : MadeDn w base g l) (hb : base' ≤ base) : MadeDn w base' g l :=
  ⟨Nat.le_trans hb h.ge, h.lt, fun i hi => by
    obtain ⟨gr, gc, x, y, z, u⟩ := h.cells i hi
    exact ⟨gr, gc, x, y.mono hb, z, Nat.le_trans hb u⟩, h.blk⟩
def partDn (w : World) (base : Nat) (xs : List Value) (l : List Dn) (k : Nat) : Prop := ∀ i (h : i < l.length), i < k → ∃ gr gc, (xs[i * 6]? = some (.int .i64 l[i].sn) ∧ xs[i * 6 + 1]? = some (.int .i64 l[i].at_) ∧ xs[i * 6 + 2]? = some (.slice (some ⟨gr, 0, none⟩) l[i].rs.length l[i].rs.length) ∧ xs[i * 6 + 3]? = some (.slice (some ⟨gc, 0, none⟩) l[i].cs.length l[i].cs.length) ∧ xs[i * 6 + 4]? = some (.bool l[i].di) ∧ xs[i * 6 + 5]? = some (.bool l[i].do_)) ∧ MadeRd w (base + 1) gr l[i].rs ∧ ReadCg w gc l[i].cs ∧ base + 1 ≤ gc
set_option maxRecDepth 8000 in
set_option maxHeartbeats 4000000 in
theorem toDoneS_any (a : Option Addr) (cap : Nat) (l : List Dn) (w : World) (hin : InDn w a l) (hlen : l.length ≤ 1048576) (hs : ∀ v ∈ l, szDn v) :
    Calls Tryz.prog 8 #[.slice a l.length cap] w fun e w' => (∃ g, e = .returned (.slice (some ⟨g, 0, none⟩) l.length l.length) ∧ MadeDn w' w.heap.size g l) ∧ Below w.heap.size w w' := by
  obtain ⟨i0, hi, hz0, hz1, hz2⟩ := info_parts infoDn
  have HI : Hid (InDn _ _ _) := hin
  have HS : Hid (∀ v ∈ l, szDn v) := hs
  clear hin hs
  go_enter Tryz.func8, Tryz.ntmps8
  go_wp2_with (refine wpList_make_full _ rfl (.tmp 6) (.tmp 6) 29 rfl w.heap.size 36 i0 (.agg #[.int .i64 0, .int .i64 0, .slice none 0 0, .slice none 0 0, .bool false, .bool false]) 6 Tryz.underlying29 hi hz0 hz1 .i64 .i64 _ _ l.length rfl rfl rfl rfl (by rw [hz2]; omega) (by unfold maxLen; omega) (Nat.le_refl _) ?_; intro w1 hown1 hgrow1)
  have hb1 : Below w.heap.size w w1 := Below.grown (Below.refl _ _) hgrow1 (Nat.le_refl _) (fun k h => by cases h)
  clear hgrow1
  go_loopw [4] (fun i wr => ∃ (k : Nat) (xs : List Value), k ≤ l.length ∧ i = .int .i64 k ∧ wr.ownsRow w.heap.size 36 6 (.slice (some ⟨w.heap.size, 0, none⟩) l.length l.length) l.length xs ∧ partDn wr w.heap.size xs l k ∧ Below w.heap.size w wr) (fun i _ => l.length - (intOf i).toNat)
  case atStart => exact ⟨0, _, Nat.zero_le _, rfl, hown1, fun i h hi => absurd hi (by omega), hb1⟩
  case round =>
    obtain ⟨k, xs, hk, rfl, hown, hpart, hbel⟩ := hrel
    clear hown1 hb1
    by_cases hlt : k < l.length
    · rcases HI.out.step hbel with h0 | ⟨b, off, rfl, hbl, hc⟩
      · omega
      · have hlt2 : (k : Int) < (l.length : Int) := by omega
        obtain ⟨p, cp, q, cq, ⟨x0, x1, x2, x3, x4, x5⟩, hT, hU⟩ := hc k hlt
        have hsk := HS.out l[k] (List.getElem_mem _)
        obtain ⟨x, hx⟩ : ∃ x, x = l[k] := ⟨_, rfl⟩
        have HX : Hid (x = l[k]) := hx
        rw [← hx] at x0 x1 x2 x3 x4 x5 hT hU hsk
        have HC : Hid (Calls _ _ _ _ _) := toDone_any x.sn x.at_ p q cp cq x.di x.do_ x.rs x.cs wr hT hU hsk
        have hz := hbel.size
        have HO : Hid (World.ownsRow _ _ _ _ _ _ _) := hown
        have HP : Hid (partDn _ _ _ _ _) := hpart
        have HB : Hid (Below _ _ _) := hbel
        have hgl : w.heap.size < wr.heap.size := (hown.lt _ rfl).2
        clear hc hown hbel hT hU hpart hx hsk
        go_wp2_with fail
        refine HC.out.mono ?_
        rintro e w2 ⟨⟨gr, gc, rfl, hR2, hR3, hR4⟩, hb2⟩
        have hown2 := owns_below HO.out hb2
        have hxl : xs.length = l.length * 6 := hown2.1
        obtain ⟨z0, y0⟩ := Tr.own_there hown2 (k * 6) (by omega)
        obtain ⟨z1, y1⟩ := Tr.own_there hown2 (k * 6 + 1) (by omega)
        obtain ⟨z2, y2⟩ := Tr.own_there hown2 (k * 6 + 2) (by omega)
        obtain ⟨z3, y3⟩ := Tr.own_there hown2 (k * 6 + 3) (by omega)
        obtain ⟨z4, y4⟩ := Tr.own_there hown2 (k * 6 + 4) (by omega)
        obtain ⟨z5, y5⟩ := Tr.own_there hown2 (k * 6 + 5) (by omega)
        have f0 := World.ownsRow.frozenAt hown2 (k * 6)
        have f1 := World.ownsRow.frozenAt hown2 (k * 6 + 1)
        have f2 := World.ownsRow.frozenAt hown2 (k * 6 + 2)
        have f3 := World.ownsRow.frozenAt hown2 (k * 6 + 3)
        have f4 := World.ownsRow.frozenAt hown2 (k * 6 + 4)
        have f5 := World.ownsRow.frozenAt hown2 (k * 6 + 5)
        have hst := (World.ownsRow.stored (World.ownsRow.stored (World.ownsRow.stored (World.ownsRow.stored (World.ownsRow.stored (World.ownsRow.stored hown2 (k * 6) (.int .i64 x.sn)).1 (k * 6 + 1) (.int .i64 x.at_)).1 (k * 6 + 2) (.slice (some ⟨gr, 0, none⟩) x.rs.length x.rs.length)).1 (k * 6 + 3) (.slice (some ⟨gc, 0, none⟩) x.cs.length x.cs.length)).1 (k * 6 + 4) (.bool x.di)).1 (k * 6 + 5) (.bool x.do_)).1
        have hpart2 : partDn ((((((w2.setCell ⟨w.heap.size, k * 6, none⟩ (.int .i64 x.sn)).setCell ⟨w.heap.size, k * 6 + 1, none⟩ (.int .i64 x.at_)).setCell ⟨w.heap.size, k * 6 + 2, none⟩ (.slice (some ⟨gr, 0, none⟩) x.rs.length x.rs.length)).setCell ⟨w.heap.size, k * 6 + 3, none⟩ (.slice (some ⟨gc, 0, none⟩) x.cs.length x.cs.length)).setCell ⟨w.heap.size, k * 6 + 4, none⟩ (.bool x.di)).setCell ⟨w.heap.size, k * 6 + 5, none⟩ (.bool x.do_)) w.heap.size ((((((xs.set (k * 6) (.int .i64 x.sn)).set (k * 6 + 1) (.int .i64 x.at_)).set (k * 6 + 2) (.slice (some ⟨gr, 0, none⟩) x.rs.length x.rs.length)).set (k * 6 + 3) (.slice (some ⟨gc, 0, none⟩) x.cs.length x.cs.length)).set (k * 6 + 4) (.bool x.di)).set (k * 6 + 5) (.bool x.do_)) l (k + 1) := by
          intro i h hi
          by_cases hik : i = k
          · subst hik
            have hxx := HX.out
            subst hxx
            refine ⟨gr, gc, ⟨by rw [List.getElem?_set_ne (by omega), List.getElem?_set_ne (by omega), List.getElem?_set_ne (by omega), List.getElem?_set_ne (by omega), List.getElem?_set_ne (by omega), List.getElem?_set_self (by first | (simp only [List.length_set]; omega) | omega)], by rw [List.getElem?_set_ne (by omega), List.getElem?_set_ne (by omega), List.getElem?_set_ne (by omega), List.getElem?_set_ne (by omega), List.getElem?_set_self (by first | (simp only [List.length_set]; omega) | omega)], by rw [List.getElem?_set_ne (by omega), List.getElem?_set_ne (by omega), List.getElem?_set_ne (by omega), List.getElem?_set_self (by first | (simp only [List.length_set]; omega) | omega)], by rw [List.getElem?_set_ne (by omega), List.getElem?_set_ne (by omega), List.getElem?_set_self (by first | (simp only [List.length_set]; omega) | omega)], by rw [List.getElem?_set_ne (by omega), List.getElem?_set_self (by first | (simp only [List.length_set]; omega) | omega)], by rw [List.getElem?_set_self (by first | (simp only [List.length_set]; omega) | omega)]⟩, ?_, ?_, by omega⟩
            · exact (((((((hR2.mono (by omega)).set (by omega)).set (by omega)).set (by omega)).set (by omega)).set (by omega)).set (by omega))
            · exact (readCg_set (readCg_set (readCg_set (readCg_set (readCg_set (readCg_set (hR3) (by omega)) (by omega)) (by omega)) (by omega)) (by omega)) (by omega))
          · obtain ⟨er, ec, ⟨e0, e1, e2, e3, e4, e5⟩, e6, e7, e8⟩ := HP.out i h (by omega)
            refine ⟨er, ec, ⟨by rw [List.getElem?_set_ne (by omega), List.getElem?_set_ne (by omega), List.getElem?_set_ne (by omega), List.getElem?_set_ne (by omega), List.getElem?_set_ne (by omega), List.getElem?_set_ne (by omega)]; exact e0, by rw [List.getElem?_set_ne (by omega), List.getElem?_set_ne (by omega), List.getElem?_set_ne (by omega), List.getElem?_set_ne (by omega), List.getElem?_set_ne (by omega), List.getElem?_set_ne (by omega)]; exact e1, by rw [List.getElem?_set_ne (by omega), List.getElem?_set_ne (by omega), List.getElem?_set_ne (by omega), List.getElem?_set_ne (by omega), List.getElem?_set_ne (by omega), List.getElem?_set_ne (by omega)]; exact e2, by rw [List.getElem?_set_ne (by omega), List.getElem?_set_ne (by omega), List.getElem?_set_ne (by omega), List.getElem?_set_ne (by omega), List.getElem?_set_ne (by omega), List.getElem?_set_ne (by omega)]; exact e3, by rw [List.getElem?_set_ne (by omega), List.getElem?_set_ne (by omega), List.getElem?_set_ne (by omega), List.getElem?_set_ne (by omega), List.getElem?_set_ne (by omega), List.getElem?_set_ne (by omega)]; exact e4, by rw [List.getElem?_set_ne (by omega), List.getElem?_set_ne (by omega), List.getElem?_set_ne (by omega), List.getElem?_set_ne (by omega), List.getElem?_set_ne (by omega), List.getElem?_set_ne (by omega)]; exact e5⟩, ?_, ?_, e8⟩
            · exact (((((((e6.next hb2).set (by omega)).set (by omega)).set (by omega)).set (by omega)).set (by omega)).set (by omega))
            · exact (readCg_set (readCg_set (readCg_set (readCg_set (readCg_set (readCg_set (e7.next hb2) (by omega)) (by omega)) (by omega)) (by omega)) (by omega)) (by omega))
        have HST : Hid (World.ownsRow _ _ _ _ _ _ _) := hst
        have HPA : Hid (partDn _ _ _ _ _) := hpart2
        have HB2 : Hid (Below _ _ _) := HB.out.trans (hb2.mono HB.out.size)
        have hz2 := hb2.size
        clear hst hown2 hb2 hpart2 hR2 hR3 HC
        go_wp2_with fail
        go_roundw
        case rel => exact ⟨k + 1, _, by omega, by go_num, HST.out, HPA.out, ((((((HB2.out.setCell (Nat.le_refl _) _).setCell (Nat.le_refl _) _).setCell (Nat.le_refl _) _).setCell (Nat.le_refl _) _).setCell (Nat.le_refl _) _).setCell (Nat.le_refl _) _)⟩
        case measure => simp [intOf]; omega
    · have hlt2 : ¬ (k : Int) < (l.length : Int) := by omega
      have hR : MadeDn wr w.heap.size w.heap.size l := ⟨Nat.le_refl _, (hown.lt _ rfl).2, fun i hi => by
        obtain ⟨er, ec, ⟨e0, e1, e2, e3, e4, e5⟩, e6, e7, e8⟩ := hpart i hi (by omega)
        exact ⟨er, ec, ⟨owns_cell hown _ _ e0, owns_cell hown _ _ e1, owns_cell hown _ _ e2, owns_cell hown _ _ e3, owns_cell hown _ _ e4, owns_cell hown _ _ e5⟩, e6.mono (by omega), e7, by omega⟩, Blk.of_own hown⟩
      have HR : Hid (MadeDn _ _ _ _) := hR
      clear hR hpart hown
      go_wp2_with fail
      go_ret
      exact ⟨⟨w.heap.size, rfl, HR.out⟩, hbel⟩

end Go.Proofs.YtcggkeleaepebaaGreatDoor.Ty

/- What marks keep of rows: their blocks' types, and where rows within rows lie. -/
namespace Go.Proofs.YtcggkeleaepebaaGreatDoor.Ty
open Go.RowKit Tr Co Rea Ce
set_option linter.unusedVariables false

theorem blk_cell {w : World} {g o : Nat} {T : TypeId} {vs : Array Value} (h : w.heap[g]? = some (.cells vs T (0, 0))) : w.cell? ⟨g, o, none⟩ = vs[o]? := by simp [World.cell?, h]
theorem Blk.there {w : World} {g n o : Nat} {T : TypeId} (h : Blk w g T n) (ho : o < n) : ∃ u, w.cell? ⟨g, o, none⟩ = some u := by
  obtain ⟨vs, h1, h2⟩ := h
  exact ⟨vs[o], by rw [blk_cell h1, Array.getElem?_eq_getElem (by omega)]⟩
theorem Blk.soft {w : World} {g n : Nat} {T : TypeId} (h : Blk w g T n) (o : Nat) : w.frozen? ⟨g, o, none⟩ = false := by
  obtain ⟨vs, h1, h2⟩ := h
  exact softDn h1 o
theorem Blk.lt {w : World} {g n : Nat} {T : TypeId} (h : Blk w g T n) : g < w.heap.size := by
  obtain ⟨vs, h1, h2⟩ := h
  exact (Array.getElem?_eq_some_iff.1 h1).1
/-- What marks leave. -/
structure Mk (lo hi : Nat) (w w' : World) : Prop where
  chg : Chg lo hi w w'
  blk : ∀ (g : Nat) (T : TypeId) (vs : Array Value), w.heap[g]? = some (.cells vs T (0, 0)) → ∃ vs', w'.heap[g]? = some (.cells vs' T (0, 0)) ∧ vs'.size = vs.size ∧ (T = 109 → vs' = vs) ∧ (T = 80 → ∀ i, vs'[i * 2 + 1]? = vs[i * 2 + 1]?) ∧ (T = 36 → ∀ i, vs'[i * 6 + 2]? = vs[i * 6 + 2]? ∧ vs'[i * 6 + 3]? = vs[i * 6 + 3]?)
theorem Mk.refl (lo hi : Nat) (w : World) : Mk lo hi w w := ⟨Chg.refl _ _ _, fun g T vs h => ⟨vs, h, rfl, fun _ => rfl, fun _ _ => rfl, fun _ _ => ⟨rfl, rfl⟩⟩⟩
theorem Mk.trans {lo hi : Nat} {a b c : World} (h : Mk lo hi a b) (k : Mk lo hi b c) : Mk lo hi a c :=
  ⟨h.chg.trans k.chg, fun g T vs e => by
    obtain ⟨v1, a1, a2, a3, a4, a5⟩ := h.blk g T vs e
    obtain ⟨v2, b1, b2, b3, b4, b5⟩ := k.blk g T v1 a1
    exact ⟨v2, b1, b2.trans a2, fun t => (b3 t).trans (a3 t), fun t i => (b4 t i).trans (a4 t i), fun t i => ⟨(b5 t i).1.trans (a5 t i).1, (b5 t i).2.trans (a5 t i).2⟩⟩⟩
theorem Mk.of_below {lo hi : Nat} {w w' : World} (h : Below w.heap.size w w') : Mk lo hi w w' :=
  ⟨Chg.of_below h, fun g T vs e => ⟨vs, (h.block g (Array.getElem?_eq_some_iff.1 e).1).trans e, rfl, fun _ => rfl, fun _ _ => rfl, fun _ _ => ⟨rfl, rfl⟩⟩⟩
theorem Mk.set {lo hi : Nat} {w : World} {g n o : Nat} {T : TypeId} (v : Value) (hB : Blk w g T n) (h1 : lo ≤ g) (h2 : g < hi) (hc : T ≠ 109) (hr : T = 80 → ∀ i, o ≠ i * 2 + 1) (hd : T = 36 → ∀ i, o ≠ i * 6 + 2 ∧ o ≠ i * 6 + 3) : Mk lo hi w (w.setCell ⟨g, o, none⟩ v) := by
  have hg : w.grownBy (w.setCell ⟨g, o, none⟩ v) (some g) := grown_setC
  refine ⟨Chg.of_grown hg (fun b e => by injection e with e; omega), fun k U vs e => ?_⟩
  by_cases hk : k = g
  · subst hk
    obtain ⟨vs0, e0, _⟩ := hB
    have e1 := e0.symm.trans e
    simp at e1
    obtain ⟨rfl, rfl⟩ := e1
    refine ⟨vs0.setIfInBounds o v, by simp [World.setCell, Array.getElem?_modify, e], by simp, fun t => absurd t hc, fun t i => ?_, fun t i => ⟨?_, ?_⟩⟩
    · rw [Array.getElem?_setIfInBounds_ne (hr t i)]
    · rw [Array.getElem?_setIfInBounds_ne (hd t i).1]
    · rw [Array.getElem?_setIfInBounds_ne (hd t i).2]
  · exact ⟨vs, (hg.block k (Array.getElem?_eq_some_iff.1 e).1 (fun h => hk (by injection h))).trans e, rfl, fun _ => rfl, fun _ _ => rfl, fun _ _ => ⟨rfl, rfl⟩⟩
theorem Blk.mk {lo hi : Nat} {w w' : World} {g n : Nat} {T : TypeId} (h : Blk w g T n) (k : Mk lo hi w w') : Blk w' g T n := by
  obtain ⟨vs, h1, h2⟩ := h
  obtain ⟨vs', a1, a2, _⟩ := k.blk g T vs h1
  exact ⟨vs', a1, by omega⟩
theorem Mk.cellC {lo hi : Nat} {w w' : World} {g n o : Nat} (k : Mk lo hi w w') (h : Blk w g 109 n) : w'.cell? ⟨g, o, none⟩ = w.cell? ⟨g, o, none⟩ := by
  obtain ⟨vs, h1, h2⟩ := h
  obtain ⟨vs', a1, a2, a3, _⟩ := k.blk g _ vs h1
  rw [blk_cell h1, blk_cell a1, a3 rfl]
theorem Mk.cellR {lo hi : Nat} {w w' : World} {g n : Nat} (k : Mk lo hi w w') (h : Blk w g 80 n) (i : Nat) : w'.cell? ⟨g, i * 2 + 1, none⟩ = w.cell? ⟨g, i * 2 + 1, none⟩ := by
  obtain ⟨vs, h1, h2⟩ := h
  obtain ⟨vs', a1, a2, a3, a4, _⟩ := k.blk g _ vs h1
  rw [blk_cell h1, blk_cell a1, a4 rfl]
theorem Mk.cellD {lo hi : Nat} {w w' : World} {g n : Nat} (k : Mk lo hi w w') (h : Blk w g 36 n) (i : Nat) : w'.cell? ⟨g, i * 6 + 2, none⟩ = w.cell? ⟨g, i * 6 + 2, none⟩ ∧ w'.cell? ⟨g, i * 6 + 3, none⟩ = w.cell? ⟨g, i * 6 + 3, none⟩ := by
  obtain ⟨vs, h1, h2⟩ := h
  obtain ⟨vs', a1, a2, a3, a4, a5⟩ := k.blk g _ vs h1
  exact ⟨by rw [blk_cell h1, blk_cell a1, (a5 rfl i).1], by rw [blk_cell h1, blk_cell a1, (a5 rfl i).2]⟩
/-- Rows of terms, clauses, reads, changes, committed ones, by their blocks alone. -/
structure ShT (w : World) (lo hi g n : Nat) : Prop where
  b : Blk w g 144 (n * 5)
  ge : lo ≤ g
  lt : g < hi
theorem ShT.mk' {lo hi : Nat} {w w' : World} {g n : Nat} (h : ShT w lo hi g n) (k : Mk lo hi w w') : ShT w' lo hi g n := ⟨h.b.mk k, h.ge, h.lt⟩
structure ShC (w : World) (lo hi g : Nat) (f : List (List Trm)) : Prop where
  b : Blk w g 109 f.length
  ge : lo ≤ g
  lt : g < hi
  cells : ∀ i (h : i < f.length), ∃ gi cap, w.cell? ⟨g, i, none⟩ = some (.slice (some ⟨gi, 0, none⟩) f[i].length cap) ∧ ShT w lo hi gi f[i].length
theorem ShC.mk' {lo hi : Nat} {w w' : World} {g : Nat} {f : List (List Trm)} (h : ShC w lo hi g f) (k : Mk lo hi w w') : ShC w' lo hi g f :=
  ⟨h.b.mk k, h.ge, h.lt, fun i hi => by
    obtain ⟨gi, cap, h1, h2⟩ := h.cells i hi
    exact ⟨gi, cap, (k.cellC h.b).trans h1, h2.mk' k⟩⟩
structure ShR (w : World) (lo hi g : Nat) (l : List Rdg) : Prop where
  b : Blk w g 80 (l.length * 2)
  ge : lo ≤ g
  lt : g < hi
  cells : ∀ i (h : i < l.length), ∃ gi, w.cell? ⟨g, i * 2 + 1, none⟩ = some (.slice (some ⟨gi, 0, none⟩) l[i].f.length l[i].f.length) ∧ ShC w lo hi gi l[i].f
theorem ShR.mk' {lo hi : Nat} {w w' : World} {g : Nat} {l : List Rdg} (h : ShR w lo hi g l) (k : Mk lo hi w w') : ShR w' lo hi g l :=
  ⟨h.b.mk k, h.ge, h.lt, fun i hi => by
    obtain ⟨gi, h1, h2⟩ := h.cells i hi
    exact ⟨gi, (k.cellR h.b i).trans h1, h2.mk' k⟩⟩
structure ShG (w : World) (lo hi g n : Nat) : Prop where
  b : Blk w g 86 (n * 10)
  ge : lo ≤ g
  lt : g < hi
theorem ShG.mk' {lo hi : Nat} {w w' : World} {g n : Nat} (h : ShG w lo hi g n) (k : Mk lo hi w w') : ShG w' lo hi g n := ⟨h.b.mk k, h.ge, h.lt⟩
structure ShD (w : World) (lo hi g : Nat) (l : List Dn) : Prop where
  b : Blk w g 36 (l.length * 6)
  ge : lo ≤ g
  lt : g < hi
  cells : ∀ i (h : i < l.length), ∃ gr gc, w.cell? ⟨g, i * 6 + 2, none⟩ = some (.slice (some ⟨gr, 0, none⟩) l[i].rs.length l[i].rs.length) ∧ w.cell? ⟨g, i * 6 + 3, none⟩ = some (.slice (some ⟨gc, 0, none⟩) l[i].cs.length l[i].cs.length) ∧ ShR w lo hi gr l[i].rs ∧ ShG w lo hi gc l[i].cs.length
theorem ShD.mk' {lo hi : Nat} {w w' : World} {g : Nat} {l : List Dn} (h : ShD w lo hi g l) (k : Mk lo hi w w') : ShD w' lo hi g l :=
  ⟨h.b.mk k, h.ge, h.lt, fun i hi => by
    obtain ⟨gr, gc, h1, h2, h3, h4⟩ := h.cells i hi
    exact ⟨gr, gc, (k.cellD h.b i).1.trans h1, (k.cellD h.b i).2.trans h2, h3.mk' k, h4.mk' k⟩⟩
theorem ReadT.sh {w : World} {lo g : Nat} {l : List Trm} (h : ReadT w g l) (hl : lo ≤ g) : ShT w lo w.heap.size g l.length := ⟨h.blk, hl, h.lt⟩
theorem MadeC.sh {w : World} {lo g : Nat} {f : List (List Trm)} (h : MadeC w lo g f) : ShC w lo w.heap.size g f := ⟨h.blk, h.ge, h.lt, fun i hi => by
    obtain ⟨gi, cap, h1, h2, h3⟩ := h.cells i hi
    exact ⟨gi, cap, h1, h3.sh h2⟩⟩
theorem MadeRd.sh {w : World} {lo g : Nat} {l : List Rdg} (h : MadeRd w lo g l) : ShR w lo w.heap.size g l := ⟨h.blk, h.ge, h.lt, fun i hi => by
    obtain ⟨h0, gi, h1, h2⟩ := h.cells i hi
    exact ⟨gi, h1, h2.sh⟩⟩
theorem MadeDn.sh {w : World} {lo g : Nat} {l : List Dn} (h : MadeDn w lo g l) : ShD w lo w.heap.size g l := ⟨h.blk, h.ge, h.lt, fun i hi => by
    obtain ⟨gr, gc, ⟨x0, x1, x2, x3, x4, x5⟩, y, z, u⟩ := h.cells i hi
    exact ⟨gr, gc, x2, x3, y.sh, ⟨z.blk, u, z.lt⟩⟩⟩

end Go.Proofs.YtcggkeleaepebaaGreatDoor.Ty

/- Marks on rows of terms, clauses, reads, changes, committed ones: what the laws' helpers answer, and what they leave. -/
namespace Go.Proofs.YtcggkeleaepebaaGreatDoor.Ty
open Go.RowKit Go.ChangeShapes Go.WideShapes Go.ChangeAt Go.Joins Tr Co Rea Ce
set_option linter.unusedVariables false

theorem mText_at (n : Nat) (z : Int) (hz : z = (n : Int)) (h1 : 1 ≤ n) (h2 : n ≤ 17592186044416) (w : World) :
    Calls Tryz.prog 63 #[.int .i64 z] w fun e w' => e = .returned (.string (Tr.mt n)) ∧ Below w.heap.size w w' := by
  subst hz; exact Tr.markText_any n h1 h2 w
/-- Whether a mark's number makes true. -/
def boolK (n : Int) : Bool := n % 3 == 0
/-- How many numbers marks on rows take. -/
def mkC (f : List (List Trm)) : Nat := sumN (fun l => 5 * l.length) f
def mkR (rs : List Rdg) : Nat := sumN (fun x => 1 + mkC x.f) rs
def mkD (ds : List Dn) : Nat := sumN (fun x => 4 + mkR x.rs + 10 * x.cs.length) ds
theorem sumN_le {α : Type} (F G : α → Nat) : ∀ (l : List α), (∀ x ∈ l, F x ≤ G x) → sumN F l ≤ sumN G l
  | [], _ => Nat.le_refl _
  | a :: l, h => by
    have := sumN_le F G l (fun x hx => h x (List.mem_cons_of_mem _ hx))
    have := h a (List.mem_cons_self ..)
    rw [sumN_cons, sumN_cons]; omega
theorem sumN_mul {α : Type} (c : Nat) (F : α → Nat) : ∀ (l : List α), sumN (fun x => c * F x) l = c * sumN F l
  | [] => rfl
  | a :: l => by rw [sumN_cons, sumN_cons, sumN_mul c F l, Nat.mul_add]
theorem sumN_len {α : Type} (c : Nat) (F : α → Nat) : ∀ (l : List α), sumN (fun x => c + F x) l = c * l.length + sumN F l
  | [] => rfl
  | a :: l => by rw [sumN_cons, sumN_cons, sumN_len c F l, List.length_cons, Nat.mul_add]; omega
theorem sumN_upto {α : Type} (F : α → Nat) (l : List α) (k : Nat) : sumN F (l.take k) ≤ sumN F l := by
  have h : sumN F l = sumN F (l.take k) + sumN F (l.drop k) := by
    unfold sumN; rw [← List.sum_append, ← List.map_append, List.take_append_drop]
  omega
theorem sumN_one {α : Type} (F : α → Nat) (l : List α) (k : Nat) (h : k < l.length) : sumN F (l.take k) + F l[k] ≤ sumN F l := by
  have := sumN_upto F l (k + 1)
  rw [sumN_take F l k h] at this; omega
theorem mkC_le (f : List (List Trm)) : mkC f ≤ 5 * cntC f := by
  have h : sumN (fun l : List Trm => 5 * l.length) f = 5 * sumN (fun l => l.length) f := sumN_mul 5 _ f
  unfold mkC cntC; rw [h]; omega
theorem mkR_le (rs : List Rdg) : mkR rs ≤ 6 * cntR rs := by
  have h : sumN (fun x : Rdg => 1 + mkC x.f) rs ≤ sumN (fun x => 1 + 6 * cntC x.f) rs := sumN_le _ _ rs (fun x _ => by have := mkC_le x.f; omega)
  have h1 : sumN (fun x : Rdg => 1 + 6 * cntC x.f) rs = 1 * rs.length + sumN (fun x => 6 * cntC x.f) rs := sumN_len 1 _ rs
  have h2 : sumN (fun x : Rdg => 6 * cntC x.f) rs = 6 * sumN (fun x => cntC x.f) rs := sumN_mul 6 _ rs
  unfold mkR cntR; omega
theorem mkD_le (ds : List Dn) : mkD ds ≤ 10 * cntD ds := by
  have h : sumN (fun x : Dn => 4 + mkR x.rs + 10 * x.cs.length) ds ≤ sumN (fun x => 4 + 10 * (cntR x.rs + x.cs.length)) ds := sumN_le _ _ ds (fun x _ => by have := mkR_le x.rs; omega)
  have h1 : sumN (fun x : Dn => 4 + 10 * (cntR x.rs + x.cs.length)) ds = 4 * ds.length + sumN (fun x => 10 * (cntR x.rs + x.cs.length)) ds := sumN_len 4 _ ds
  have h2 : sumN (fun x : Dn => 10 * (cntR x.rs + x.cs.length)) ds = 10 * sumN (fun x => cntR x.rs + x.cs.length) ds := sumN_mul 10 _ ds
  unfold mkD cntD; omega
/-- What marks on one row leave, that row kept in sight. -/
structure MkB (lo hi : Nat) (w w' : World) (g n : Nat) (T : TypeId) : Prop where
  m : Mk lo hi w w'
  b : Blk w' g T n
theorem MkB.set {lo hi : Nat} {w w' : World} {g n o : Nat} {T : TypeId} (h : MkB lo hi w w' g n T) (v : Value) (h1 : lo ≤ g) (h2 : g < hi) (hc : T ≠ 109) (hr : T = 80 → ∀ i, o ≠ i * 2 + 1) (hd : T = 36 → ∀ i, o ≠ i * 6 + 2 ∧ o ≠ i * 6 + 3) : MkB lo hi w (w'.setCell ⟨g, o, none⟩ v) g n T :=
  have k := Mk.set (lo := lo) (hi := hi) v h.b h1 h2 hc hr hd
  ⟨h.m.trans k, h.b.mk k⟩
theorem MkB.next {lo hi : Nat} {w w' w'' : World} {g n : Nat} {T : TypeId} (h : MkB lo hi w w' g n T) (hb : Below w'.heap.size w' w'') : MkB lo hi w w'' g n T :=
  ⟨h.m.trans (Mk.of_below hb), h.b.mk (Mk.of_below (lo := lo) (hi := hi) hb)⟩
theorem MkB.more {lo hi : Nat} {w w' w'' : World} {g n : Nat} {T : TypeId} (h : MkB lo hi w w' g n T) (k : Mk lo hi w' w'') : MkB lo hi w w'' g n T :=
  ⟨h.m.trans k, h.b.mk k⟩

set_option maxRecDepth 4000 in
set_option maxHeartbeats 2000000 in
theorem markTermS_any (lo hi g c : Nat) (n : Nat) (q : Nat) (w : World) (hsh : ShT w lo hi g n) (h1 : 1 ≤ q) (h2 : q + 5 * n ≤ 17592186044416) (hl : n ≤ 1048576) :
    Calls Tryz.prog 91 #[.slice (some ⟨g, 0, none⟩) n c, .int .i64 q] w fun e w' => e = .returned (.int .i64 ((q + 5 * n : Nat) : Int)) ∧ Mk lo hi w w' := by
  have HSH : Hid (ShT w lo hi g n) := hsh
  have HG : Hid (lo ≤ g ∧ g < hi) := ⟨hsh.ge, hsh.lt⟩
  clear hsh
  go_enter Tryz.func91, Tryz.ntmps91
  go_wp2_with fail
  go_loopw [1, 5] (fun x i wr => ∃ (k E : Nat), k ≤ n ∧ i = .int .i64 k ∧ x = .int .i64 (E : Int) ∧ E = q + 5 * k ∧ Mk lo hi w wr) (fun _ i _ => n - (intOf i).toNat)
  case atStart => exact ⟨0, q, Nat.zero_le _, rfl, rfl, by omega, Mk.refl _ _ _⟩
  case round =>
    obtain ⟨k, E, hk, rfl, rfl, hE, hM⟩ := hrel
    have hz := hM.chg.size
    by_cases hlt : k < n
    · have hlt2 : (k : Int) < (n : Int) := by omega
      have hE1 : 1 ≤ E := by omega
      have hEb : E + 5 ≤ 17592186044416 := by omega
      have HEQ : Hid (E = q + 5 * k) := hE
      have M0 : MkB lo hi w wr g (n * 5) 144 := ⟨hM, (HSH.out.mk' hM).b⟩
      have hglr : g < wr.heap.size := M0.b.lt
      clear hE hM
      obtain ⟨z0, y0⟩ := M0.b.there (o := k * 5) (by omega)
      have f0 := M0.b.soft (k * 5)
      have HN0 : Hid (MkB lo hi w _ g (n * 5) 144) := (MkB.set M0 (o := k * 5) (.int .i64 ((E : Int))) HG.out.1 HG.out.2 (by decide) (fun h => absurd h (by decide)) (fun h => absurd h (by decide)))
      clear M0
      go_wp2_with fail
      refine (mText_at (E + 1) _ (by omega) (by omega) (by omega) _).mono ?_
      rintro e w2 ⟨rfl, hb⟩
      have M1 := HN0.out.next hb
      have hglr0 : g < w2.heap.size := M1.b.lt
      have hz0 : w.heap.size ≤ w2.heap.size := M1.m.chg.size
      clear hb HN0 hz hglr y0 f0
      obtain ⟨z1, y1⟩ := M1.b.there (o := k * 5 + 1) (by omega)
      have f1 := M1.b.soft (k * 5 + 1)
      obtain ⟨z2, y2⟩ := M1.b.there (o := k * 5 + 2) (by omega)
      have f2 := M1.b.soft (k * 5 + 2)
      obtain ⟨z3, y3⟩ := M1.b.there (o := k * 5 + 3) (by omega)
      have f3 := M1.b.soft (k * 5 + 3)
      have HN1 : Hid (MkB lo hi w _ g (n * 5) 144) := (MkB.set (MkB.set (MkB.set M1 (o := k * 5 + 1) (.string (Tr.mt (E + 1))) HG.out.1 HG.out.2 (by decide) (fun h => absurd h (by decide)) (fun h => absurd h (by decide))) (o := k * 5 + 2) (.int .i64 ((E : Int) + 1 + 1)) HG.out.1 HG.out.2 (by decide) (fun h => absurd h (by decide)) (fun h => absurd h (by decide))) (o := k * 5 + 3) (.int .i64 ((E : Int) + 1 + 1 + 1)) HG.out.1 HG.out.2 (by decide) (fun h => absurd h (by decide)) (fun h => absurd h (by decide)))
      clear M1
      go_wp2_with fail
      refine (mText_at (E + 4) _ (by omega) (by omega) (by omega) _).mono ?_
      rintro e w3 ⟨rfl, hb⟩
      have M2 := HN1.out.next hb
      have hglr1 : g < w3.heap.size := M2.b.lt
      have hz1 : w.heap.size ≤ w3.heap.size := M2.m.chg.size
      clear hb HN1 hz0 hglr0 y1 f1 y2 f2 y3 f3
      obtain ⟨z4, y4⟩ := M2.b.there (o := k * 5 + 4) (by omega)
      have f4 := M2.b.soft (k * 5 + 4)
      have HN2 : Hid (MkB lo hi w _ g (n * 5) 144) := (MkB.set M2 (o := k * 5 + 4) (.string (Tr.mt (E + 4))) HG.out.1 HG.out.2 (by decide) (fun h => absurd h (by decide)) (fun h => absurd h (by decide)))
      clear M2
      go_wp2_with fail
      go_roundw
      case rel => exact ⟨k + 1, E + 5, by omega, by go_num, by go_num, by have := HEQ.out; omega, HN2.out.m⟩
      case measure => simp [intOf]; omega
    · obtain rfl : k = n := by omega
      subst hE
      go_wp2_with fail
      go_ret
      exact ⟨rfl, hM⟩

set_option maxRecDepth 4000 in
set_option maxHeartbeats 2000000 in
theorem markChangeS_any (lo hi g c : Nat) (n : Nat) (q : Nat) (w : World) (hsh : ShG w lo hi g n) (h1 : 1 ≤ q) (h2 : q + 10 * n ≤ 17592186044416) (hl : n ≤ 1048576) :
    Calls Tryz.prog 34 #[.slice (some ⟨g, 0, none⟩) n c, .int .i64 q] w fun e w' => e = .returned (.int .i64 ((q + 10 * n : Nat) : Int)) ∧ Mk lo hi w w' := by
  have HSH : Hid (ShG w lo hi g n) := hsh
  have HG : Hid (lo ≤ g ∧ g < hi) := ⟨hsh.ge, hsh.lt⟩
  clear hsh
  go_enter Tryz.func34, Tryz.ntmps34
  go_wp2_with fail
  go_loopw [1, 5] (fun x i wr => ∃ (k E : Nat), k ≤ n ∧ i = .int .i64 k ∧ x = .int .i64 (E : Int) ∧ E = q + 10 * k ∧ Mk lo hi w wr) (fun _ i _ => n - (intOf i).toNat)
  case atStart => exact ⟨0, q, Nat.zero_le _, rfl, rfl, by omega, Mk.refl _ _ _⟩
  case round =>
    obtain ⟨k, E, hk, rfl, rfl, hE, hM⟩ := hrel
    have hz := hM.chg.size
    by_cases hlt : k < n
    · have hlt2 : (k : Int) < (n : Int) := by omega
      have hE1 : 1 ≤ E := by omega
      have hEb : E + 10 ≤ 17592186044416 := by omega
      have HEQ : Hid (E = q + 10 * k) := hE
      have M0 : MkB lo hi w wr g (n * 10) 86 := ⟨hM, (HSH.out.mk' hM).b⟩
      have hglr : g < wr.heap.size := M0.b.lt
      clear hE hM
      have HN0 : Hid (MkB lo hi w _ g (n * 10) 86) := M0
      clear M0
      go_wp2_with fail
      refine (mText_at (E + 0) _ (by omega) (by omega) (by omega) _).mono ?_
      rintro e w2 ⟨rfl, hb⟩
      have M1 := HN0.out.next hb
      have hglr0 : g < w2.heap.size := M1.b.lt
      have hz0 : w.heap.size ≤ w2.heap.size := M1.m.chg.size
      clear hb HN0 hz hglr 
      obtain ⟨B2, hB2⟩ : ∃ B2 : Bool, B2 = boolK ((E : Int) + 1 + 1) := ⟨_, rfl⟩
      have kB2 : (((E : Int) + 1 + 1) % 3 == 0) = B2 := by rw [hB2]; rfl
      have tB2 : Int.tmod ((E : Int) + 1 + 1) 3 = ((E : Int) + 1 + 1) % 3 := Int.tmod_eq_emod_of_nonneg (by omega)
      clear hB2
      obtain ⟨z0, y0⟩ := M1.b.there (o := k * 10) (by omega)
      have f0 := M1.b.soft (k * 10)
      obtain ⟨z1, y1⟩ := M1.b.there (o := k * 10 + 1) (by omega)
      have f1 := M1.b.soft (k * 10 + 1)
      obtain ⟨z2, y2⟩ := M1.b.there (o := k * 10 + 2) (by omega)
      have f2 := M1.b.soft (k * 10 + 2)
      obtain ⟨z3, y3⟩ := M1.b.there (o := k * 10 + 3) (by omega)
      have f3 := M1.b.soft (k * 10 + 3)
      obtain ⟨z4, y4⟩ := M1.b.there (o := k * 10 + 4) (by omega)
      have f4 := M1.b.soft (k * 10 + 4)
      have HN1 : Hid (MkB lo hi w _ g (n * 10) 86) := (MkB.set (MkB.set (MkB.set (MkB.set (MkB.set M1 (o := k * 10) (.string (Tr.mt (E + 0))) HG.out.1 HG.out.2 (by decide) (fun h => absurd h (by decide)) (fun h => absurd h (by decide))) (o := k * 10 + 1) (.int .i64 ((E : Int) + 1)) HG.out.1 HG.out.2 (by decide) (fun h => absurd h (by decide)) (fun h => absurd h (by decide))) (o := k * 10 + 2) (.bool B2) HG.out.1 HG.out.2 (by decide) (fun h => absurd h (by decide)) (fun h => absurd h (by decide))) (o := k * 10 + 3) (.int .i64 ((E : Int) + 1 + 1 + 1)) HG.out.1 HG.out.2 (by decide) (fun h => absurd h (by decide)) (fun h => absurd h (by decide))) (o := k * 10 + 4) (.int .i64 ((E : Int) + 1 + 1 + 1 + 1)) HG.out.1 HG.out.2 (by decide) (fun h => absurd h (by decide)) (fun h => absurd h (by decide)))
      clear M1
      go_wp2_with fail
      refine (mText_at (E + 5) _ (by omega) (by omega) (by omega) _).mono ?_
      rintro e w3 ⟨rfl, hb⟩
      have M2 := HN1.out.next hb
      have hglr1 : g < w3.heap.size := M2.b.lt
      have hz1 : w.heap.size ≤ w3.heap.size := M2.m.chg.size
      clear hb HN1 hz0 hglr0 y0 f0 y1 f1 y2 f2 y3 f3 y4 f4
      obtain ⟨z5, y5⟩ := M2.b.there (o := k * 10 + 5) (by omega)
      have f5 := M2.b.soft (k * 10 + 5)
      obtain ⟨z6, y6⟩ := M2.b.there (o := k * 10 + 6) (by omega)
      have f6 := M2.b.soft (k * 10 + 6)
      obtain ⟨z7, y7⟩ := M2.b.there (o := k * 10 + 7) (by omega)
      have f7 := M2.b.soft (k * 10 + 7)
      have HN2 : Hid (MkB lo hi w _ g (n * 10) 86) := (MkB.set (MkB.set (MkB.set M2 (o := k * 10 + 5) (.string (Tr.mt (E + 5))) HG.out.1 HG.out.2 (by decide) (fun h => absurd h (by decide)) (fun h => absurd h (by decide))) (o := k * 10 + 6) (.int .i64 ((E : Int) + 1 + 1 + 1 + 1 + 1 + 1)) HG.out.1 HG.out.2 (by decide) (fun h => absurd h (by decide)) (fun h => absurd h (by decide))) (o := k * 10 + 7) (.int .i64 ((E : Int) + 1 + 1 + 1 + 1 + 1 + 1 + 1)) HG.out.1 HG.out.2 (by decide) (fun h => absurd h (by decide)) (fun h => absurd h (by decide)))
      clear M2
      go_wp2_with fail
      refine (mText_at (E + 8) _ (by omega) (by omega) (by omega) _).mono ?_
      rintro e w4 ⟨rfl, hb⟩
      have M3 := HN2.out.next hb
      have hglr2 : g < w4.heap.size := M3.b.lt
      have hz2 : w.heap.size ≤ w4.heap.size := M3.m.chg.size
      clear hb HN2 hz1 hglr1 y5 f5 y6 f6 y7 f7
      obtain ⟨B9, hB9⟩ : ∃ B9 : Bool, B9 = boolK ((E : Int) + 1 + 1 + 1 + 1 + 1 + 1 + 1 + 1 + 1) := ⟨_, rfl⟩
      have kB9 : (((E : Int) + 1 + 1 + 1 + 1 + 1 + 1 + 1 + 1 + 1) % 3 == 0) = B9 := by rw [hB9]; rfl
      have tB9 : Int.tmod ((E : Int) + 1 + 1 + 1 + 1 + 1 + 1 + 1 + 1 + 1) 3 = ((E : Int) + 1 + 1 + 1 + 1 + 1 + 1 + 1 + 1 + 1) % 3 := Int.tmod_eq_emod_of_nonneg (by omega)
      clear hB9
      obtain ⟨z8, y8⟩ := M3.b.there (o := k * 10 + 8) (by omega)
      have f8 := M3.b.soft (k * 10 + 8)
      obtain ⟨z9, y9⟩ := M3.b.there (o := k * 10 + 9) (by omega)
      have f9 := M3.b.soft (k * 10 + 9)
      have HN3 : Hid (MkB lo hi w _ g (n * 10) 86) := (MkB.set (MkB.set M3 (o := k * 10 + 8) (.string (Tr.mt (E + 8))) HG.out.1 HG.out.2 (by decide) (fun h => absurd h (by decide)) (fun h => absurd h (by decide))) (o := k * 10 + 9) (.bool B9) HG.out.1 HG.out.2 (by decide) (fun h => absurd h (by decide)) (fun h => absurd h (by decide)))
      clear M3
      go_wp2_with fail
      go_roundw
      case rel => exact ⟨k + 1, E + 10, by omega, by go_num, by go_num, by have := HEQ.out; omega, HN3.out.m⟩
      case measure => simp [intOf]; omega
    · obtain rfl : k = n := by omega
      subst hE
      go_wp2_with fail
      go_ret
      exact ⟨rfl, hM⟩

set_option maxRecDepth 4000 in
set_option maxHeartbeats 2000000 in
theorem markClauseS_any (lo hi g c : Nat) (l : List (List Trm)) (q : Nat) (w : World) (hsh : ShC w lo hi g l) (h1 : 1 ≤ q) (h2 : q + mkC l ≤ 17592186044416) (hl : l.length ≤ 1048576) (hls : ∀ x ∈ l, x.length ≤ 1048576) :
    Calls Tryz.prog 64 #[.slice (some ⟨g, 0, none⟩) l.length c, .int .i64 q] w fun e w' => e = .returned (.int .i64 ((q + mkC l : Nat) : Int)) ∧ Mk lo hi w w' := by
  have HSH : Hid (ShC w lo hi g l) := hsh
  have HLS : Hid (∀ x ∈ l, x.length ≤ 1048576) := hls
  have HG : Hid (lo ≤ g ∧ g < hi) := ⟨hsh.ge, hsh.lt⟩
  clear hsh hls
  go_enter Tryz.func64, Tryz.ntmps64
  go_wp2_with fail
  go_loopw [1, 5] (fun x i wr => ∃ (k E : Nat), k ≤ l.length ∧ i = .int .i64 k ∧ x = .int .i64 (E : Int) ∧ E = q + sumN (fun l : List Trm => 5 * l.length) (l.take k) ∧ Mk lo hi w wr) (fun _ i _ => l.length - (intOf i).toNat)
  case atStart => exact ⟨0, q, Nat.zero_le _, rfl, rfl, by simp [sumN], Mk.refl _ _ _⟩
  case round =>
    obtain ⟨k, E, hk, rfl, rfl, hE, hM⟩ := hrel
    have hz := hM.chg.size
    by_cases hlt : k < l.length
    · have hlt2 : (k : Int) < (l.length : Int) := by omega
      have hE1 : 1 ≤ E := by omega
      have hs1 := sumN_one (fun l : List Trm => 5 * l.length) l k hlt
      have HS2 : Hid (sumN (fun l : List Trm => 5 * l.length) (l.take (k + 1)) = sumN (fun l : List Trm => 5 * l.length) (l.take k) + (5 * l[k].length)) := sumN_take (fun l : List Trm => 5 * l.length) l k hlt
      have hEb : E + (5 * l[k].length) ≤ 17592186044416 := by unfold mkC at h2; omega
      have HEQ : Hid (E = q + sumN (fun l : List Trm => 5 * l.length) (l.take k)) := hE
      clear hs1 hE
      have hsr := HSH.out.mk' hM
      obtain ⟨gi, cap, x0, hS⟩ := hsr.cells k hlt
      have hglr : g < wr.heap.size := hsr.b.lt
      have HT : Hid (Calls _ _ _ _ _) := markTermS_any lo hi gi cap l[k].length E wr hS hE1 hEb (HLS.out _ (List.getElem_mem _))
      have HM : Hid (Mk lo hi w wr) := hM
      clear hsr hS hM
      go_wp2_with fail
      refine HT.out.mono ?_
      rintro e w2 ⟨rfl, hm2⟩
      have HM2 : Hid (Mk lo hi w w2) := HM.out.trans hm2
      have hz2 := hm2.chg.size
      clear hm2 HT HM x0
      go_wp2_with fail
      go_roundw
      case rel => exact ⟨k + 1, E + 5 * l[k].length, by omega, by go_num, by go_num, by have a := HEQ.out; have b := HS2.out; omega, HM2.out⟩
      case measure => simp [intOf]; omega
    · obtain rfl : k = l.length := by omega
      rw [List.take_of_length_le (Nat.le_refl _)] at hE
      subst hE
      go_wp2_with fail
      go_ret
      exact ⟨rfl, hM⟩

set_option maxRecDepth 4000 in
set_option maxHeartbeats 2000000 in
theorem markReadS_any (lo hi g c : Nat) (l : List Rdg) (q : Nat) (w : World) (hsh : ShR w lo hi g l) (h1 : 1 ≤ q) (h2 : q + mkR l ≤ 17592186044416) (hl : l.length ≤ 1048576) (hls : ∀ x ∈ l, x.f.length ≤ 1048576 ∧ ∀ y ∈ x.f, y.length ≤ 1048576) :
    Calls Tryz.prog 33 #[.slice (some ⟨g, 0, none⟩) l.length c, .int .i64 q] w fun e w' => e = .returned (.int .i64 ((q + mkR l : Nat) : Int)) ∧ Mk lo hi w w' := by
  have HSH : Hid (ShR w lo hi g l) := hsh
  have HLS : Hid (∀ x ∈ l, x.f.length ≤ 1048576 ∧ ∀ y ∈ x.f, y.length ≤ 1048576) := hls
  have HG : Hid (lo ≤ g ∧ g < hi) := ⟨hsh.ge, hsh.lt⟩
  clear hsh hls
  go_enter Tryz.func33, Tryz.ntmps33
  go_wp2_with fail
  go_loopw [1, 5] (fun x i wr => ∃ (k E : Nat), k ≤ l.length ∧ i = .int .i64 k ∧ x = .int .i64 (E : Int) ∧ E = q + sumN (fun x : Rdg => 1 + mkC x.f) (l.take k) ∧ Mk lo hi w wr) (fun _ i _ => l.length - (intOf i).toNat)
  case atStart => exact ⟨0, q, Nat.zero_le _, rfl, rfl, by simp [sumN], Mk.refl _ _ _⟩
  case round =>
    obtain ⟨k, E, hk, rfl, rfl, hE, hM⟩ := hrel
    have hz := hM.chg.size
    by_cases hlt : k < l.length
    · have hlt2 : (k : Int) < (l.length : Int) := by omega
      have hE1 : 1 ≤ E := by omega
      have hs1 := sumN_one (fun x : Rdg => 1 + mkC x.f) l k hlt
      have HS2 : Hid (sumN (fun x : Rdg => 1 + mkC x.f) (l.take (k + 1)) = sumN (fun x : Rdg => 1 + mkC x.f) (l.take k) + (1 + mkC l[k].f)) := sumN_take (fun x : Rdg => 1 + mkC x.f) l k hlt
      have hEb : E + (1 + mkC l[k].f) ≤ 17592186044416 := by unfold mkR at h2; omega
      have HEQ : Hid (E = q + sumN (fun x : Rdg => 1 + mkC x.f) (l.take k)) := hE
      clear hs1 hE
      have M0 : MkB lo hi w wr g (l.length * 2) 80 := ⟨hM, (HSH.out.mk' hM).b⟩
      have hglr : g < wr.heap.size := M0.b.lt
      clear hM
      go_wp2_with fail
      refine (mText_at E _ (by omega) (by omega) (by omega) _).mono ?_
      rintro e w2 ⟨rfl, hb⟩
      have M1 := M0.next hb
      have hglr2 : g < w2.heap.size := M1.b.lt
      clear hb M0 hglr hz
      have M2 := MkB.set M1 (o := k * 2) (.string (Tr.mt E)) HG.out.1 HG.out.2 (by decide) (fun _ i => by omega) (fun h => absurd h (by decide))
      obtain ⟨gi, x1, hS⟩ := (HSH.out.mk' M2.m).cells k hlt
      have hT := markClauseS_any lo hi gi l[k].f.length l[k].f (E + 1) _ hS (by omega) (by omega) (HLS.out _ (List.getElem_mem _)).1 (HLS.out _ (List.getElem_mem _)).2
      rw [show ((E + 1 : Nat) : Int) = (E : Int) + 1 by omega] at hT
      have HT : Hid (Calls _ _ _ _ _) := hT
      have HM2 : Hid (Mk lo hi w _) := M2.m
      obtain ⟨z0, y0⟩ := M1.b.there (o := k * 2) (by omega)
      have f0 := M1.b.soft (k * 2)
      have y1 : w2.cell? ⟨g, k * 2 + 1, none⟩ = some (.slice (some ⟨gi, 0, none⟩) l[k].f.length l[k].f.length) := by
        rw [← x1]
        simp only [World.cell?, World.setCell, Array.getElem?_modify]
        obtain ⟨vs, e1, e2⟩ := M1.b
        simp [e1]
      clear M1 M2 x1 hS hT
      go_wp2_with fail
      refine HT.out.mono ?_
      rintro e w3 ⟨rfl, hm2⟩
      have HM3 : Hid (Mk lo hi w w3) := HM2.out.trans hm2
      have hz3 := hm2.chg.size
      clear hm2 HT HM2 y0 y1 f0
      go_wp2_with fail
      go_roundw
      case rel => exact ⟨k + 1, E + (1 + mkC l[k].f), by omega, by go_num, by go_num, by have a := HEQ.out; have b := HS2.out; omega, HM3.out⟩
      case measure => simp [intOf]; omega
    · obtain rfl : k = l.length := by omega
      rw [List.take_of_length_le (Nat.le_refl _)] at hE
      subst hE
      go_wp2_with fail
      go_ret
      exact ⟨rfl, hM⟩

end Go.Proofs.YtcggkeleaepebaaGreatDoor.Ty

/- Marks on rows of committed ones: what the laws' helper answers, and what it leaves. -/
namespace Go.Proofs.YtcggkeleaepebaaGreatDoor.Ty
open Go.RowKit Go.ChangeShapes Go.WideShapes Go.ChangeAt Go.Joins Tr Co Rea Ce
set_option linter.unusedVariables false

set_option maxRecDepth 4000 in
set_option maxHeartbeats 2000000 in
theorem markDoneS_any (lo hi g c : Nat) (l : List Dn) (q : Nat) (w : World) (hsh : ShD w lo hi g l) (h1 : 1 ≤ q) (h2 : q + mkD l ≤ 17592186044416) (hl : l.length ≤ 1048576) (hls : ∀ d ∈ l, d.rs.length ≤ 1048576 ∧ d.cs.length ≤ 1048576 ∧ ∀ x ∈ d.rs, x.f.length ≤ 1048576 ∧ ∀ y ∈ x.f, y.length ≤ 1048576) :
    Calls Tryz.prog 13 #[.slice (some ⟨g, 0, none⟩) l.length c, .int .i64 q] w fun e w' => e = .returned (.int .i64 ((q + mkD l : Nat) : Int)) ∧ Mk lo hi w w' := by
  have HSH : Hid (ShD w lo hi g l) := hsh
  have HLS : Hid (∀ d ∈ l, d.rs.length ≤ 1048576 ∧ d.cs.length ≤ 1048576 ∧ ∀ x ∈ d.rs, x.f.length ≤ 1048576 ∧ ∀ y ∈ x.f, y.length ≤ 1048576) := hls
  have HG : Hid (lo ≤ g ∧ g < hi) := ⟨hsh.ge, hsh.lt⟩
  clear hsh hls
  go_enter Tryz.func13, Tryz.ntmps13
  go_wp2_with fail
  go_loopw [1, 5] (fun x i wr => ∃ (k E : Nat), k ≤ l.length ∧ i = .int .i64 k ∧ x = .int .i64 (E : Int) ∧ E = q + sumN (fun x : Dn => 4 + mkR x.rs + 10 * x.cs.length) (l.take k) ∧ Mk lo hi w wr) (fun _ i _ => l.length - (intOf i).toNat)
  case atStart => exact ⟨0, q, Nat.zero_le _, rfl, rfl, by simp [sumN], Mk.refl _ _ _⟩
  case round =>
    obtain ⟨k, E, hk, rfl, rfl, hE, hM⟩ := hrel
    have hz := hM.chg.size
    by_cases hlt : k < l.length
    · have hlt2 : (k : Int) < (l.length : Int) := by omega
      have hE1 : 1 ≤ E := by omega
      have hs1 := sumN_one (fun x : Dn => 4 + mkR x.rs + 10 * x.cs.length) l k hlt
      have HS2 : Hid (sumN (fun x : Dn => 4 + mkR x.rs + 10 * x.cs.length) (l.take (k + 1)) = sumN (fun x : Dn => 4 + mkR x.rs + 10 * x.cs.length) (l.take k) + (4 + mkR l[k].rs + 10 * l[k].cs.length)) := sumN_take (fun x : Dn => 4 + mkR x.rs + 10 * x.cs.length) l k hlt
      have hEb : E + (4 + mkR l[k].rs + 10 * l[k].cs.length) ≤ 17592186044416 := by unfold mkD at h2; omega
      have HEQ : Hid (E = q + sumN (fun x : Dn => 4 + mkR x.rs + 10 * x.cs.length) (l.take k)) := hE
      clear hs1 hE
      have M0 : MkB lo hi w wr g (l.length * 6) 36 := ⟨hM, (HSH.out.mk' hM).b⟩
      have hglr : g < wr.heap.size := M0.b.lt
      have hls := HLS.out l[k] (List.getElem_mem _)
      clear hM
      have M1 := (MkB.set (MkB.set M0 (o := k * 6) (.int .i64 ((E : Int))) HG.out.1 HG.out.2 (by decide) (fun h => absurd h (by decide)) (fun _ i => by constructor <;> omega)) (o := k * 6 + 1) (.int .i64 ((E : Int) + 1)) HG.out.1 HG.out.2 (by decide) (fun h => absurd h (by decide)) (fun _ i => by constructor <;> omega))
      obtain ⟨gr, gc, x2, x3, hR, hC⟩ := (HSH.out.mk' M1.m).cells k hlt
      have hT := markReadS_any lo hi gr l[k].rs.length l[k].rs (E + 2) _ hR (by omega) (by omega) hls.1 hls.2.2
      rw [show ((E + 2 : Nat) : Int) = (E : Int) + 1 + 1 by omega] at hT
      have HT : Hid (Calls _ _ _ _ _) := hT
      have HM1 : Hid (MkB lo hi w _ g (l.length * 6) 36) := M1
      obtain ⟨z0, y0⟩ := M0.b.there (o := k * 6) (by omega)
      have f0 := M0.b.soft (k * 6)
      obtain ⟨z1, y1⟩ := M0.b.there (o := k * 6 + 1) (by omega)
      have f1 := M0.b.soft (k * 6 + 1)
      have y2 : wr.cell? ⟨g, k * 6 + 2, none⟩ = some (.slice (some ⟨gr, 0, none⟩) l[k].rs.length l[k].rs.length) := by
        rw [← x2]
        simp only [World.cell?, World.setCell, Array.getElem?_modify]
        obtain ⟨vs, e1, e2⟩ := M0.b
        simp [e1]
      have y3 : wr.cell? ⟨g, k * 6 + 3, none⟩ = some (.slice (some ⟨gc, 0, none⟩) l[k].cs.length l[k].cs.length) := by
        rw [← x3]
        simp only [World.cell?, World.setCell, Array.getElem?_modify]
        obtain ⟨vs, e1, e2⟩ := M0.b
        simp [e1]
      have HX3 : Hid (_ = _) := x3
      have HC : Hid (ShG _ lo hi gc l[k].cs.length) := hC
      clear M0 M1 x2 x3 hR hC hT
      go_wp2_with fail
      refine HT.out.mono ?_
      rintro e w2 ⟨rfl, hm2⟩
      have M2 := HM1.out.more hm2
      obtain ⟨F, hF⟩ : ∃ F, F = E + 2 + mkR l[k].rs := ⟨_, rfl⟩
      rw [← hF]
      have hT := markChangeS_any lo hi gc l[k].cs.length l[k].cs.length F w2 (HC.out.mk' hm2) (by omega) (by omega) hls.2.1
      have y3' := ((hm2.cellD HM1.out.b k).2).trans HX3.out
      have hFb : F + 10 * l[k].cs.length + 2 ≤ 17592186044416 := by omega
      have HF : Hid (F = E + 2 + mkR l[k].rs) := hF
      have HT2 : Hid (Calls _ _ _ _ _) := hT
      have HM2 : Hid (MkB lo hi w w2 g (l.length * 6) 36) := M2
      have hglr2 : g < w2.heap.size := M2.b.lt
      have hz2 : w.heap.size ≤ w2.heap.size := M2.m.chg.size
      clear hm2 HT HM1 HX3 HC M2 hT hF y0 y1 y2 y3 f0 f1 hz hglr
      go_wp2_with fail
      refine HT2.out.mono ?_
      rintro e w3 ⟨rfl, hm3⟩
      have M3 := HM2.out.more hm3
      obtain ⟨G, hG⟩ : ∃ G, G = F + 10 * l[k].cs.length := ⟨_, rfl⟩
      rw [← hG]
      have hGb : G + 2 ≤ 17592186044416 := by omega
      have hglr3 : g < w3.heap.size := M3.b.lt
      have hz3 : w.heap.size ≤ w3.heap.size := M3.m.chg.size
      obtain ⟨B4, hB4⟩ : ∃ B4 : Bool, B4 = boolK ((G : Int)) := ⟨_, rfl⟩
      have kB4 : (((G : Int)) % 3 == 0) = B4 := by rw [hB4]; rfl
      have tB4 : Int.tmod ((G : Int)) 3 = ((G : Int)) % 3 := Int.tmod_eq_emod_of_nonneg (by omega)
      clear hB4
      obtain ⟨B5, hB5⟩ : ∃ B5 : Bool, B5 = boolK ((G : Int) + 1) := ⟨_, rfl⟩
      have kB5 : (((G : Int) + 1) % 3 == 0) = B5 := by rw [hB5]; rfl
      have tB5 : Int.tmod ((G : Int) + 1) 3 = ((G : Int) + 1) % 3 := Int.tmod_eq_emod_of_nonneg (by omega)
      clear hB5
      obtain ⟨z4, y4⟩ := M3.b.there (o := k * 6 + 4) (by omega)
      have f4 := M3.b.soft (k * 6 + 4)
      obtain ⟨z5, y5⟩ := M3.b.there (o := k * 6 + 5) (by omega)
      have f5 := M3.b.soft (k * 6 + 5)
      have HM4 : Hid (MkB lo hi w _ g (l.length * 6) 36) := (MkB.set (MkB.set M3 (o := k * 6 + 4) (.bool B4) HG.out.1 HG.out.2 (by decide) (fun h => absurd h (by decide)) (fun _ i => by constructor <;> omega)) (o := k * 6 + 5) (.bool B5) HG.out.1 HG.out.2 (by decide) (fun h => absurd h (by decide)) (fun _ i => by constructor <;> omega))
      have HQ : Hid (F = E + 2 + mkR l[k].rs ∧ G = F + 10 * l[k].cs.length) := ⟨HF.out, hG⟩
      clear hm3 HT2 HM2 M3 y3' HF hG hz2 hglr2 hls
      go_wp2_with fail
      go_roundw
      case rel => exact ⟨k + 1, E + (4 + mkR l[k].rs + 10 * l[k].cs.length), by omega, by go_num, by have a := HQ.out; go_num, by have a := HEQ.out; have b := HS2.out; omega, HM4.out.m⟩
      case measure => simp [intOf]; omega
    · obtain rfl : k = l.length := by omega
      rw [List.take_of_length_le (Nat.le_refl _)] at hE
      subst hE
      go_wp2_with fail
      go_ret
      exact ⟨rfl, hM⟩

end Go.Proofs.YtcggkeleaepebaaGreatDoor.Ty
