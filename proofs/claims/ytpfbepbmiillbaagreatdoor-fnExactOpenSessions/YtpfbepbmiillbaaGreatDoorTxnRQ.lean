/- Rows of transactions: what the laws' own helpers on them answer. -/
import Derived.Test.YtpfbepbmiillbaaGreatDoorTxnLQ
import Derived.Deep.RegionHeld3
namespace Go.Proofs.YtpfbepbmiillbaaGreatDoor.Tx
open Go.RowKit Go.ChangeShapes Go.WideShapes Go.ChangeAt Go.Joins Tr Co Rea Ce
set_option linter.unusedVariables false

/-- A transaction. -/
structure Tn where
  sn : Int
  sp : Int
  rs : List Rdg
  cs : List Wrt
theorem infoTn : (Tryz.prog.info? 75).map (fun i => (i.zero, i.size, i.bytes)) = some (some (.agg #[.int .i64 0, .int .i64 0, .slice none 0 0, .slice none 0 0]), 4, 64) := by kernel_rfl
/-- Those that came in. -/
def InTn (w : World) (a : Option Addr) (l : List Tn) : Prop := l.length = 0 ∨ ∃ b off, a = some ⟨b, off, none⟩ ∧ b < w.heap.size ∧ ∀ i (h : i < l.length), ∃ p cp q cq, (w.cell? ⟨b, off + i * 4, none⟩ = some (.int .i64 l[i].sn) ∧ w.cell? ⟨b, off + i * 4 + 1, none⟩ = some (.int .i64 l[i].sp) ∧ w.cell? ⟨b, off + i * 4 + 2, none⟩ = some (.slice p l[i].rs.length cp) ∧ w.cell? ⟨b, off + i * 4 + 3, none⟩ = some (.slice q l[i].cs.length cq)) ∧ InRd w p l[i].rs ∧ InWs w q l[i].cs
theorem InTn.step {w w' : World} {a : Option Addr} {l : List Tn} (h : InTn w a l) (hb : Below w.heap.size w w') : InTn w' a l := by
  rcases h with h | ⟨b, off, ha, hlt, hc⟩
  · exact .inl h
  · exact .inr ⟨b, off, ha, Nat.lt_of_lt_of_le hlt hb.size, fun i hi => by
      obtain ⟨p, cp, q, cq, ⟨x0, x1, x2, x3⟩, y, z⟩ := hc i hi
      exact ⟨p, cp, q, cq, ⟨(hb.cell hlt).trans x0, (hb.cell hlt).trans x1, (hb.cell hlt).trans x2, (hb.cell hlt).trans x3⟩, y.step hb, z.step hb⟩⟩
/-- A row of them made anew. -/
structure MadeTn (w : World) (base g : Nat) (l : List Tn) : Prop where
  ge : base ≤ g
  lt : g < w.heap.size
  cells : ∀ i (h : i < l.length), ∃ gr gc, (w.cell? ⟨g, i * 4, none⟩ = some (.int .i64 l[i].sn) ∧ w.cell? ⟨g, i * 4 + 1, none⟩ = some (.int .i64 l[i].sp) ∧ w.cell? ⟨g, i * 4 + 2, none⟩ = some (.slice (some ⟨gr, 0, none⟩) l[i].rs.length l[i].rs.length) ∧ w.cell? ⟨g, i * 4 + 3, none⟩ = some (.slice (some ⟨gc, 0, none⟩) l[i].cs.length l[i].cs.length)) ∧ MadeRd w base gr l[i].rs ∧ ReadWs w gc l[i].cs ∧ base ≤ gc
theorem MadeTn.next {w w' : World} {base g : Nat} {l : List Tn} (h : MadeTn w base g l) (hb : Below w.heap.size w w') : MadeTn w' base g l :=
  ⟨h.ge, Nat.lt_of_lt_of_le h.lt hb.size, fun i hi => by
    obtain ⟨gr, gc, ⟨x0, x1, x2, x3⟩, y, z, u⟩ := h.cells i hi
    exact ⟨gr, gc, ⟨(hb.cell h.lt).trans x0, (hb.cell h.lt).trans x1, (hb.cell h.lt).trans x2, (hb.cell h.lt).trans x3⟩, y.next hb, z.next hb, u⟩⟩
theorem MadeTn.mono {w : World} {base base' g : Nat} {l : List Tn} (h : MadeTn w base g l) (hb : base' ≤ base) : MadeTn w base' g l :=
  ⟨Nat.le_trans hb h.ge, h.lt, fun i hi => by
    obtain ⟨gr, gc, x, y, z, u⟩ := h.cells i hi
    exact ⟨gr, gc, x, y.mono hb, z, Nat.le_trans hb u⟩⟩
def szTn (x : Tn) : Prop := SzTn x.rs x.cs
def maxTn (x : Tn) : Prop := MaxTn x.rs x.cs
theorem take_allTn (p : Tn → Prop) (l : List Tn) (k : Nat) (h : k < l.length) (h1 : ∀ v ∈ l.take k, p v) (h2 : p l[k]) : ∀ v ∈ l.take (k + 1), p v := by
  intro v hv
  rw [List.take_succ_eq_append_getElem h] at hv
  rcases List.mem_append.1 hv with hv | hv
  · exact h1 v hv
  · simp at hv; subst hv; exact h2
set_option maxRecDepth 4000 in
set_option maxHeartbeats 1000000 in
theorem szTxnS_any (a : Option Addr) (cap : Nat) (l : List Tn) (c0 : Int) (w : World) (hin : InTn w a l) (hl : l.length ≤ maxLen) (hs : ∀ v ∈ l, maxTn v) (h0 : 0 ≤ c0) (h1 : c0 ≤ 1048576) :
    Calls Tryz.prog 29 #[.slice a l.length cap, .int .i64 c0] w fun e w' => (∃ r : Int, e = .returned (.int .i64 r) ∧ (r < 0 ∨ (0 ≤ r ∧ r ≤ c0 ∧ l.length ≤ 1048576 ∧ ∀ v ∈ l, szTn v))) ∧ Below w.heap.size w w' := by
  unfold maxLen at hl
  have HI : Hid (InTn _ _ _) := hin
  have HS : Hid (∀ v ∈ l, maxTn v) := hs
  clear hin hs
  by_cases hbig : c0 < (l.length : Int)
  · have hneg : c0 - (l.length : Int) < 0 := by omega
    go_enter Tryz.func29, Tryz.ntmps29
    go_wp2_with fail
    go_ret
    exact ⟨⟨-1, rfl, .inl (by omega)⟩, Below.refl _ _⟩
  · have hneg : ¬ c0 - (l.length : Int) < 0 := by omega
    go_enter Tryz.func29, Tryz.ntmps29
    go_wp2_with fail
    go_loopw [1, 5] (fun u i wr => ∃ k : Nat, k ≤ l.length ∧ i = .int .i64 k ∧ ∃ c : Int, u = .int .i64 c ∧ 0 ≤ c ∧ c ≤ c0 ∧ (∀ v ∈ l.take k, szTn v) ∧ Below w.heap.size w wr) (fun _ i _ => l.length - (intOf i).toNat)
    case atStart => exact ⟨0, Nat.zero_le _, rfl, _, rfl, by omega, by omega, (fun v hv => by simp at hv), Below.refl _ _⟩
    case round =>
      obtain ⟨k, hk, rfl, c, rfl, hc0, hc1, hall, hbel⟩ := hrel
      have HA : Hid (∀ v ∈ l.take k, szTn v) := hall
      clear hall
      by_cases hlt : k < l.length
      · rcases HI.out.step hbel with h0' | ⟨b, off, rfl, hbl, hcell⟩
        · omega
        · have hlt2 : (k : Int) < (l.length : Int) := by omega
          obtain ⟨p, cp, q, cq, ⟨x0, x1, x2, x3⟩, hT, hU⟩ := hcell k hlt
          have HC : Hid (Calls _ _ _ _ _) := szTxn_any l[k].sn l[k].sp p q cp cq l[k].rs l[k].cs c wr hT hU (HS.out l[k] (List.getElem_mem _)) hc0 (by omega)
          clear hcell hT hU
          go_wp2_with fail
          refine HC.out.mono ?_
          rintro e w1 ⟨⟨r, rfl, hr⟩, hb⟩
          have hb1 := hbel.trans (hb.mono hbel.size)
          clear hb HC
          rcases hr with hneg2 | ⟨hr0, hr1, hr2⟩
          · go_wp2_with fail
            go_ret
            exact ⟨⟨-1, rfl, .inl (by omega)⟩, hb1⟩
          · have hnn : ¬ r < 0 := by omega
            have HSZ : Hid (szTn l[k]) := hr2
            clear hr2
            go_wp2_with fail
            go_roundw
            case rel => exact ⟨k + 1, by omega, by go_num, r, rfl, by omega, by omega, take_allTn _ l k hlt HA.out HSZ.out, hb1⟩
            case measure => simp [intOf]; omega
      · have hlt2 : ¬ (k : Int) < (l.length : Int) := by omega
        go_wp2_with fail
        go_ret
        exact ⟨⟨c, rfl, .inr ⟨hc0, hc1, by omega, by have := HA.out; rw [List.take_of_length_le (by omega)] at this; exact this⟩⟩, hbel⟩
/-- Which of them stand already at their places. -/
def partTn (w : World) (base : Nat) (xs : List Value) (l : List Tn) (k : Nat) : Prop := ∀ i (h : i < l.length), i < k → ∃ gr gc, (xs[i * 4]? = some (.int .i64 l[i].sn) ∧ xs[i * 4 + 1]? = some (.int .i64 l[i].sp) ∧ xs[i * 4 + 2]? = some (.slice (some ⟨gr, 0, none⟩) l[i].rs.length l[i].rs.length) ∧ xs[i * 4 + 3]? = some (.slice (some ⟨gc, 0, none⟩) l[i].cs.length l[i].cs.length)) ∧ MadeRd w (base + 1) gr l[i].rs ∧ ReadWs w gc l[i].cs ∧ base + 1 ≤ gc
set_option maxRecDepth 8000 in
set_option maxHeartbeats 4000000 in
theorem toTxnS_any (a : Option Addr) (cap : Nat) (l : List Tn) (w : World) (hin : InTn w a l) (hlen : l.length ≤ 1048576) (hs : ∀ v ∈ l, szTn v) :
    Calls Tryz.prog 37 #[.slice a l.length cap] w fun e w' => (∃ g, e = .returned (.slice (some ⟨g, 0, none⟩) l.length l.length) ∧ MadeTn w' w.heap.size g l) ∧ Below w.heap.size w w' := by
  obtain ⟨i0, hi, hz0, hz1, hz2⟩ := info_parts infoTn
  have HI : Hid (InTn _ _ _) := hin
  have HS : Hid (∀ v ∈ l, szTn v) := hs
  clear hin hs
  go_enter Tryz.func37, Tryz.ntmps37
  go_wp2_with (refine wpList_make_full _ rfl (.tmp 6) (.tmp 6) 30 rfl w.heap.size 75 i0 (.agg #[.int .i64 0, .int .i64 0, .slice none 0 0, .slice none 0 0]) 4 Tryz.underlying30 hi hz0 hz1 .i64 .i64 _ _ l.length rfl rfl rfl rfl (by rw [hz2]; omega) (by unfold maxLen; omega) (Nat.le_refl _) ?_; intro w1 hown1 hgrow1)
  have hb1 : Below w.heap.size w w1 := Below.grown (Below.refl _ _) hgrow1 (Nat.le_refl _) (fun k h => by cases h)
  clear hgrow1
  go_loopw [4] (fun i wr => ∃ (k : Nat) (xs : List Value), k ≤ l.length ∧ i = .int .i64 k ∧ wr.ownsRow w.heap.size 75 4 (.slice (some ⟨w.heap.size, 0, none⟩) l.length l.length) l.length xs ∧ partTn wr w.heap.size xs l k ∧ Below w.heap.size w wr) (fun i _ => l.length - (intOf i).toNat)
  case atStart => exact ⟨0, _, Nat.zero_le _, rfl, hown1, fun i h hi => absurd hi (by omega), hb1⟩
  case round =>
    obtain ⟨k, xs, hk, rfl, hown, hpart, hbel⟩ := hrel
    clear hown1 hb1
    by_cases hlt : k < l.length
    · rcases HI.out.step hbel with h0 | ⟨b, off, rfl, hbl, hc⟩
      · omega
      · have hlt2 : (k : Int) < (l.length : Int) := by omega
        obtain ⟨p, cp, q, cq, ⟨x0, x1, x2, x3⟩, hT, hU⟩ := hc k hlt
        have hsk := HS.out l[k] (List.getElem_mem _)
        obtain ⟨x, hx⟩ : ∃ x, x = l[k] := ⟨_, rfl⟩
        have HX : Hid (x = l[k]) := hx
        rw [← hx] at x0 x1 x2 x3 hT hU hsk
        have HC : Hid (Calls _ _ _ _ _) := toTxn_any x.sn x.sp p q cp cq x.rs x.cs wr hT hU hsk
        have hz := hbel.size
        have HO : Hid (World.ownsRow _ _ _ _ _ _ _) := hown
        have HP : Hid (partTn _ _ _ _ _) := hpart
        have HB : Hid (Below _ _ _) := hbel
        have hgl : w.heap.size < wr.heap.size := (hown.lt _ rfl).2
        clear hc hown hbel hT hU hpart hx hsk
        go_wp2_with fail
        refine HC.out.mono ?_
        rintro e w2 ⟨⟨gr, gc, rfl, hR2, hR3, hR4⟩, hb2⟩
        have hown2 := owns_below HO.out hb2
        have hxl : xs.length = l.length * 4 := hown2.1
        obtain ⟨z0, y0⟩ := Tr.own_there hown2 (k * 4) (by omega)
        obtain ⟨z1, y1⟩ := Tr.own_there hown2 (k * 4 + 1) (by omega)
        obtain ⟨z2, y2⟩ := Tr.own_there hown2 (k * 4 + 2) (by omega)
        obtain ⟨z3, y3⟩ := Tr.own_there hown2 (k * 4 + 3) (by omega)
        have f0 := World.ownsRow.frozenAt hown2 (k * 4)
        have f1 := World.ownsRow.frozenAt hown2 (k * 4 + 1)
        have f2 := World.ownsRow.frozenAt hown2 (k * 4 + 2)
        have f3 := World.ownsRow.frozenAt hown2 (k * 4 + 3)
        have hst := (World.ownsRow.stored (World.ownsRow.stored (World.ownsRow.stored (World.ownsRow.stored hown2 (k * 4) (.int .i64 x.sn)).1 (k * 4 + 1) (.int .i64 x.sp)).1 (k * 4 + 2) (.slice (some ⟨gr, 0, none⟩) x.rs.length x.rs.length)).1 (k * 4 + 3) (.slice (some ⟨gc, 0, none⟩) x.cs.length x.cs.length)).1
        have hpart2 : partTn ((((w2.setCell ⟨w.heap.size, k * 4, none⟩ (.int .i64 x.sn)).setCell ⟨w.heap.size, k * 4 + 1, none⟩ (.int .i64 x.sp)).setCell ⟨w.heap.size, k * 4 + 2, none⟩ (.slice (some ⟨gr, 0, none⟩) x.rs.length x.rs.length)).setCell ⟨w.heap.size, k * 4 + 3, none⟩ (.slice (some ⟨gc, 0, none⟩) x.cs.length x.cs.length)) w.heap.size ((((xs.set (k * 4) (.int .i64 x.sn)).set (k * 4 + 1) (.int .i64 x.sp)).set (k * 4 + 2) (.slice (some ⟨gr, 0, none⟩) x.rs.length x.rs.length)).set (k * 4 + 3) (.slice (some ⟨gc, 0, none⟩) x.cs.length x.cs.length)) l (k + 1) := by
          intro i h hi
          by_cases hik : i = k
          · subst hik
            have hxx := HX.out
            subst hxx
            refine ⟨gr, gc, ⟨by rw [List.getElem?_set_ne (by omega), List.getElem?_set_ne (by omega), List.getElem?_set_ne (by omega), List.getElem?_set_self (by first | (simp only [List.length_set]; omega) | omega)], by rw [List.getElem?_set_ne (by omega), List.getElem?_set_ne (by omega), List.getElem?_set_self (by first | (simp only [List.length_set]; omega) | omega)], by rw [List.getElem?_set_ne (by omega), List.getElem?_set_self (by first | (simp only [List.length_set]; omega) | omega)], by rw [List.getElem?_set_self (by first | (simp only [List.length_set]; omega) | omega)]⟩, ?_, ?_, by omega⟩
            · exact (((((hR2.mono (by omega)).set (by omega)).set (by omega)).set (by omega)).set (by omega))
            · exact (readWs_set (readWs_set (readWs_set (readWs_set (hR3) (by omega)) (by omega)) (by omega)) (by omega))
          · obtain ⟨er, ec, ⟨e0, e1, e2, e3⟩, e6, e7, e8⟩ := HP.out i h (by omega)
            refine ⟨er, ec, ⟨by rw [List.getElem?_set_ne (by omega), List.getElem?_set_ne (by omega), List.getElem?_set_ne (by omega), List.getElem?_set_ne (by omega)]; exact e0, by rw [List.getElem?_set_ne (by omega), List.getElem?_set_ne (by omega), List.getElem?_set_ne (by omega), List.getElem?_set_ne (by omega)]; exact e1, by rw [List.getElem?_set_ne (by omega), List.getElem?_set_ne (by omega), List.getElem?_set_ne (by omega), List.getElem?_set_ne (by omega)]; exact e2, by rw [List.getElem?_set_ne (by omega), List.getElem?_set_ne (by omega), List.getElem?_set_ne (by omega), List.getElem?_set_ne (by omega)]; exact e3⟩, ?_, ?_, e8⟩
            · exact (((((e6.next hb2).set (by omega)).set (by omega)).set (by omega)).set (by omega))
            · exact (readWs_set (readWs_set (readWs_set (readWs_set (e7.next hb2) (by omega)) (by omega)) (by omega)) (by omega))
        have HST : Hid (World.ownsRow _ _ _ _ _ _ _) := hst
        have HPA : Hid (partTn _ _ _ _ _) := hpart2
        have HB2 : Hid (Below _ _ _) := HB.out.trans (hb2.mono HB.out.size)
        have hz2 := hb2.size
        clear hst hown2 hb2 hpart2 hR2 hR3 HC
        go_wp2_with fail
        go_roundw
        case rel => exact ⟨k + 1, _, by omega, by go_num, HST.out, HPA.out, ((((HB2.out.setCell (Nat.le_refl _) _).setCell (Nat.le_refl _) _).setCell (Nat.le_refl _) _).setCell (Nat.le_refl _) _)⟩
        case measure => simp [intOf]; omega
    · have hlt2 : ¬ (k : Int) < (l.length : Int) := by omega
      have hR : MadeTn wr w.heap.size w.heap.size l := ⟨Nat.le_refl _, (hown.lt _ rfl).2, fun i hi => by
        obtain ⟨er, ec, ⟨e0, e1, e2, e3⟩, e6, e7, e8⟩ := hpart i hi (by omega)
        exact ⟨er, ec, ⟨owns_cell hown _ _ e0, owns_cell hown _ _ e1, owns_cell hown _ _ e2, owns_cell hown _ _ e3⟩, e6.mono (by omega), e7, by omega⟩⟩
      have HR : Hid (MadeTn _ _ _ _) := hR
      clear hR hpart hown
      go_wp2_with fail
      go_ret
      exact ⟨⟨w.heap.size, rfl, HR.out⟩, hbel⟩
theorem keepTs {w w0 : World} {g1 g2 k ga gb ha hb_ : Nat} {x : Tn} (h1 : g1 < w.heap.size) (h2 : g2 < w.heap.size) (t0 : w.cell? ⟨g1, k * 4, none⟩ = some (.int .i64 x.sn)) (t1 : w.cell? ⟨g1, k * 4 + 1, none⟩ = some (.int .i64 x.sp)) (t2 : w.cell? ⟨g1, k * 4 + 2, none⟩ = some (.slice (some ⟨ga, 0, none⟩) x.rs.length x.rs.length)) (t3 : w.cell? ⟨g1, k * 4 + 3, none⟩ = some (.slice (some ⟨ha, 0, none⟩) x.cs.length x.cs.length)) (t4 : w.cell? ⟨g2, k * 4, none⟩ = some (.int .i64 x.sn)) (t5 : w.cell? ⟨g2, k * 4 + 1, none⟩ = some (.int .i64 x.sp)) (t6 : w.cell? ⟨g2, k * 4 + 2, none⟩ = some (.slice (some ⟨gb, 0, none⟩) x.rs.length x.rs.length)) (t7 : w.cell? ⟨g2, k * 4 + 3, none⟩ = some (.slice (some ⟨hb_, 0, none⟩) x.cs.length x.cs.length)) (hb : Below w.heap.size w w0) : w0.cell? ⟨g1, k * 4, none⟩ = some (.int .i64 x.sn) ∧ w0.cell? ⟨g1, k * 4 + 1, none⟩ = some (.int .i64 x.sp) ∧ w0.cell? ⟨g1, k * 4 + 2, none⟩ = some (.slice (some ⟨ga, 0, none⟩) x.rs.length x.rs.length) ∧ w0.cell? ⟨g1, k * 4 + 3, none⟩ = some (.slice (some ⟨ha, 0, none⟩) x.cs.length x.cs.length) ∧ w0.cell? ⟨g2, k * 4, none⟩ = some (.int .i64 x.sn) ∧ w0.cell? ⟨g2, k * 4 + 1, none⟩ = some (.int .i64 x.sp) ∧ w0.cell? ⟨g2, k * 4 + 2, none⟩ = some (.slice (some ⟨gb, 0, none⟩) x.rs.length x.rs.length) ∧ w0.cell? ⟨g2, k * 4 + 3, none⟩ = some (.slice (some ⟨hb_, 0, none⟩) x.cs.length x.cs.length) :=
  ⟨(hb.cell h1).trans t0, (hb.cell h1).trans t1, (hb.cell h1).trans t2, (hb.cell h1).trans t3, (hb.cell h2).trans t4, (hb.cell h2).trans t5, (hb.cell h2).trans t6, (hb.cell h2).trans t7⟩
set_option maxRecDepth 4000 in
set_option maxHeartbeats 4000000 in
theorem eqTxnS_same (g1 g2 c1 c2 b1 b2 : Nat) (l : List Tn) (w : World) (h1 : MadeTn w b1 g1 l) (h2 : MadeTn w b2 g2 l) (hlen : l.length ≤ 1048576) (hs : ∀ v ∈ l, szTn v) :
    Calls Tryz.prog 44 #[.slice (some ⟨g1, 0, none⟩) l.length c1, .slice (some ⟨g2, 0, none⟩) l.length c2] w fun e w' => e = .returned (.bool true) ∧ Below w.heap.size w w' := by
  have H1 : Hid (MadeTn _ _ _ _) := h1
  have H2 : Hid (MadeTn _ _ _ _) := h2
  have HS : Hid (∀ v ∈ l, szTn v) := hs
  clear h1 h2 hs
  go_enter Tryz.func44, Tryz.ntmps44
  go_wp2_with fail
  go_loopw [5] (fun i wr => ∃ k : Nat, k ≤ l.length ∧ i = .int .i64 k ∧ Below w.heap.size w wr) (fun i _ => l.length - (intOf i).toNat)
  case atStart => exact ⟨0, Nat.zero_le _, rfl, Below.refl _ _⟩
  case round =>
    obtain ⟨k, hk, rfl, hbel⟩ := hrel
    by_cases hlt : k < l.length
    · have hlt2 : (k : Int) < (l.length : Int) := by omega
      have R1 := H1.out.next hbel
      have R2 := H2.out.next hbel
      obtain ⟨ga, ha, ⟨t0, t1, t2, t3⟩, u0, u1, u2⟩ := R1.cells k hlt
      obtain ⟨gb, hb_, ⟨t4, t5, t6, t7⟩, v0, v1, v2⟩ := R2.cells k hlt
      have hg1 := R1.lt
      have hg2 := R2.lt
      have hsk := HS.out l[k] (List.getElem_mem _)
      obtain ⟨x, hx⟩ : ∃ x, x = l[k] := ⟨_, rfl⟩
      rw [← hx] at t0 t1 t2 t3 t4 t5 t6 t7 u0 u1 v0 v1 hsk
      have HC : Hid (∀ W : World, Below wr.heap.size wr W → Calls Tryz.prog 80 #[.agg #[.int .i64 x.sn, .int .i64 x.sp, .slice (some ⟨ga, 0, none⟩) x.rs.length x.rs.length, .slice (some ⟨ha, 0, none⟩) x.cs.length x.cs.length], .agg #[.int .i64 x.sn, .int .i64 x.sp, .slice (some ⟨gb, 0, none⟩) x.rs.length x.rs.length, .slice (some ⟨hb_, 0, none⟩) x.cs.length x.cs.length]] W fun e w' => e = .returned (.bool true) ∧ Below W.heap.size W w') := fun W hW => eqTxn_same x.sn x.sp ga ha gb hb_ x.rs.length x.cs.length x.rs.length x.cs.length b1 b2 x.rs x.cs W (u0.next hW) (v0.next hW) (u1.next hW).inWs (v1.next hW).inWs hsk
      clear hx hsk
      clear R1 R2 u0 u1 u2 v0 v1 v2
      go_wp2_with fail
      go_region_held3 (fun w0 => w0.cell? ⟨g1, k * 4, none⟩ = some (.int .i64 x.sn) ∧ w0.cell? ⟨g1, k * 4 + 1, none⟩ = some (.int .i64 x.sp) ∧ w0.cell? ⟨g1, k * 4 + 2, none⟩ = some (.slice (some ⟨ga, 0, none⟩) x.rs.length x.rs.length) ∧ w0.cell? ⟨g1, k * 4 + 3, none⟩ = some (.slice (some ⟨ha, 0, none⟩) x.cs.length x.cs.length) ∧ w0.cell? ⟨g2, k * 4, none⟩ = some (.int .i64 x.sn) ∧ w0.cell? ⟨g2, k * 4 + 1, none⟩ = some (.int .i64 x.sp) ∧ w0.cell? ⟨g2, k * 4 + 2, none⟩ = some (.slice (some ⟨gb, 0, none⟩) x.rs.length x.rs.length) ∧ w0.cell? ⟨g2, k * 4 + 3, none⟩ = some (.slice (some ⟨hb_, 0, none⟩) x.cs.length x.cs.length)) ((refine keepTs hg1 hg2 t0 t1 t2 t3 t4 t5 t6 t7 ?_; (repeat (first | (with_reducible exact Below.refl _ _) | (with_reducible assumption) | (with_reducible apply below_drewN) | (with_reducible apply Below.drew) | ((with_reducible refine Below.setCell ?_ ?_ _); rotate_left; focus (first | (simp; done) | (simp; omega) | omega)) | ((with_reducible refine Below.alloc ?_ ?_ _); rotate_left; focus (first | (simp; done) | (simp; omega) | omega)))))) ((go_at_call 80; refine (HC.out _ (by (repeat (first | (with_reducible exact Below.refl _ _) | (with_reducible assumption) | (with_reducible apply below_drewN) | (with_reducible apply Below.drew) | ((with_reducible refine Below.setCell ?_ ?_ _); rotate_left; focus (first | (simp; done) | (simp; omega) | omega)) | ((with_reducible refine Below.alloc ?_ ?_ _); rotate_left; focus (first | (simp; done) | (simp; omega) | omega)))))).mono ?_; rintro e w2 ⟨rfl, hb⟩; have hB2 : Below wr.heap.size wr w2 := (show Below wr.heap.size wr _ by (repeat (first | (with_reducible exact Below.refl _ _) | (with_reducible assumption) | (with_reducible apply below_drewN) | (with_reducible apply Below.drew) | ((with_reducible refine Below.setCell ?_ ?_ _); rotate_left; focus (first | (simp; done) | (simp; omega) | omega)) | ((with_reducible refine Below.alloc ?_ ?_ _); rotate_left; focus (first | (simp; done) | (simp; omega) | omega))))).trans (hb.mono (by simp)); clear hb))
      all_goals
        have hb2 := hbel.trans (hB2.mono hbel.size)
        go_wp2_with fail
        go_roundw
        case rel => exact ⟨k + 1, by omega, by go_num, hb2⟩
        case measure => simp [intOf]; omega
    · have hlt2 : ¬ (k : Int) < (l.length : Int) := by omega
      go_wp2_with fail
      go_ret
      exact ⟨rfl, hbel⟩

end Go.Proofs.YtpfbepbmiillbaaGreatDoor.Tx
