/- Rows of reads: what the laws' own helpers on them answer; ContainsFunc over them. -/
import Derived.Test.YtcggkeleaepebaaGreatDoorRowTQ
import Derived.Test.YtcggkeleaepebaaGreatDoorTrMQ
namespace Go.Proofs.YtcggkeleaepebaaGreatDoor.Rea
open Go.RowKit
set_option linter.unusedVariables false

/-- A read. -/
structure Rdg where
  coll : ByteArray
  f : List (List Trm)
def okR (x : Rdg) : Bool := readB x.coll x.f
theorem infoR : (Tryz.prog.info? 80).map (fun i => (i.zero, i.size, i.bytes)) = some (some (.agg #[.string em, .slice none 0 0]), 2, 40) := by kernel_rfl
/-- Reads that came in. -/
def InRd (w : World) (a : Option Addr) (l : List Rdg) : Prop := l.length = 0 ∨ ∃ b off, a = some ⟨b, off, none⟩ ∧ b < w.heap.size ∧ ∀ i (h : i < l.length), w.cell? ⟨b, off + i * 2, none⟩ = some (.string l[i].coll) ∧ ∃ p cap, w.cell? ⟨b, off + i * 2 + 1, none⟩ = some (.slice p l[i].f.length cap) ∧ InCl w p l[i].f
theorem InRd.step {w w' : World} {a : Option Addr} {l : List Rdg} (h : InRd w a l) (hb : Below w.heap.size w w') : InRd w' a l := by
  rcases h with h | ⟨b, off, ha, hlt, hc⟩
  · exact .inl h
  · exact .inr ⟨b, off, ha, Nat.lt_of_lt_of_le hlt hb.size, fun i hi => by
      obtain ⟨h0, p, cap, h1, h2⟩ := hc i hi
      exact ⟨(hb.cell hlt).trans h0, p, cap, (hb.cell hlt).trans h1, h2.step hb⟩⟩
/-- A row of reads made anew. -/
structure MadeRd (w : World) (base g : Nat) (l : List Rdg) : Prop where
  ge : base ≤ g
  lt : g < w.heap.size
  cells : ∀ i (h : i < l.length), w.cell? ⟨g, i * 2, none⟩ = some (.string l[i].coll) ∧ ∃ gi, w.cell? ⟨g, i * 2 + 1, none⟩ = some (.slice (some ⟨gi, 0, none⟩) l[i].f.length l[i].f.length) ∧ MadeC w base gi l[i].f
theorem MadeRd.next {w w' : World} {base g : Nat} {l : List Rdg} (h : MadeRd w base g l) (hb : Below w.heap.size w w') : MadeRd w' base g l :=
  ⟨h.ge, Nat.lt_of_lt_of_le h.lt hb.size, fun i hi => by
    obtain ⟨h0, gi, h1, h2⟩ := h.cells i hi
    exact ⟨(hb.cell h.lt).trans h0, gi, (hb.cell h.lt).trans h1, madeR_next h2 hb⟩⟩
theorem MadeRd.mono {w : World} {base base' g : Nat} {l : List Rdg} (h : MadeRd w base g l) (hb : base' ≤ base) : MadeRd w base' g l :=
  ⟨Nat.le_trans hb h.ge, h.lt, fun i hi => by
    obtain ⟨h0, gi, h1, h2⟩ := h.cells i hi
    exact ⟨h0, gi, h1, madeR_mono h2 hb⟩⟩
theorem MadeRd.set {w : World} {base g b o : Nat} {v : Value} {l : List Rdg} (h : MadeRd w base g l) (hb : b < base) : MadeRd (w.setCell ⟨b, o, none⟩ v) base g l :=
  ⟨h.ge, by simpa [World.setCell] using h.lt, fun i hi => by
    obtain ⟨h0, gi, h1, h2⟩ := h.cells i hi
    have hg : w.grownBy (w.setCell ⟨b, o, none⟩ v) (some b) := grown_setC
    have hge := h.ge
    have hbk := hg.block g h.lt (fun e => by injection e; omega)
    exact ⟨(World.cell?_of_block (a := ⟨g, i * 2, none⟩) hbk).trans h0, gi, (World.cell?_of_block (a := ⟨g, i * 2 + 1, none⟩) hbk).trans h1, h2.set hb⟩⟩
def szRd (x : Rdg) : Prop := SzR x.coll x.f
def maxRd (x : Rdg) : Prop := MaxR x.coll x.f
theorem take_allRd (p : Rdg → Prop) (l : List Rdg) (k : Nat) (h : k < l.length) (h1 : ∀ v ∈ l.take k, p v) (h2 : p l[k]) : ∀ v ∈ l.take (k + 1), p v := by
  intro v hv
  rw [List.take_succ_eq_append_getElem h] at hv
  rcases List.mem_append.1 hv with hv | hv
  · exact h1 v hv
  · simp at hv; subst hv; exact h2
set_option maxRecDepth 4000 in
set_option maxHeartbeats 1000000 in
theorem szReadS_any (a : Option Addr) (cap : Nat) (l : List Rdg) (c0 : Int) (w : World) (hin : InRd w a l) (hl : l.length ≤ maxLen) (hs : ∀ v ∈ l, maxRd v) (h0 : 0 ≤ c0) (h1 : c0 ≤ 1048576) :
    Calls Tryz.prog 18 #[.slice a l.length cap, .int .i64 c0] w fun e w' => (∃ r : Int, e = .returned (.int .i64 r) ∧ (r < 0 ∨ (0 ≤ r ∧ r ≤ c0 ∧ l.length ≤ 1048576 ∧ ∀ v ∈ l, szRd v))) ∧ Below w.heap.size w w' := by
  unfold maxLen at hl
  have HI : Hid (InRd _ _ _) := hin
  have HS : Hid (∀ v ∈ l, maxRd v) := hs
  clear hin hs
  by_cases hbig : c0 < (l.length : Int)
  · have hneg : c0 - (l.length : Int) < 0 := by omega
    go_enter Tryz.func18, Tryz.ntmps18
    go_wp2_with fail
    go_ret
    exact ⟨⟨-1, rfl, .inl (by omega)⟩, Below.refl _ _⟩
  · have hneg : ¬ c0 - (l.length : Int) < 0 := by omega
    go_enter Tryz.func18, Tryz.ntmps18
    go_wp2_with fail
    go_loopw [1, 5] (fun u i wr => ∃ k : Nat, k ≤ l.length ∧ i = .int .i64 k ∧ ∃ c : Int, u = .int .i64 c ∧ 0 ≤ c ∧ c ≤ c0 ∧ (∀ v ∈ l.take k, szRd v) ∧ Below w.heap.size w wr) (fun _ i _ => l.length - (intOf i).toNat)
    case atStart => exact ⟨0, Nat.zero_le _, rfl, _, rfl, by omega, by omega, (fun v hv => by simp at hv), Below.refl _ _⟩
    case round =>
      obtain ⟨k, hk, rfl, c, rfl, hc0, hc1, hall, hbel⟩ := hrel
      have HA : Hid (∀ v ∈ l.take k, szRd v) := hall
      clear hall
      by_cases hlt : k < l.length
      · rcases HI.out.step hbel with h0' | ⟨b, off, rfl, hbl, hcell⟩
        · omega
        · have hlt2 : (k : Int) < (l.length : Int) := by omega
          obtain ⟨x0, p, pc, x1, hT⟩ := hcell k hlt
          have HC : Hid (Calls _ _ _ _ _) := szRead_any l[k].coll p pc l[k].f c wr hT (HS.out l[k] (List.getElem_mem _)) hc0 (by omega)
          clear hcell hT
          go_wp2_with fail
          refine HC.out.mono ?_
          rintro e w1 ⟨⟨r, rfl, hr⟩, hb⟩
          have hb1 := hbel.trans (hb.mono hbel.size)
          clear hb HC
          rcases hr with hneg2 | ⟨hr0, hr1, hr2⟩
          · go_wp2_with fail
            go_ret
            exact ⟨⟨-1, rfl, .inl (by omega)⟩, hb1⟩
          · have hnn : ¬ r < 0 := by omega
            have HSZ : Hid (szRd l[k]) := hr2
            clear hr2
            go_wp2_with fail
            go_roundw
            case rel => exact ⟨k + 1, by omega, by go_num, r, rfl, by omega, by omega, take_allRd _ l k hlt HA.out HSZ.out, hb1⟩
            case measure => simp [intOf]; omega
      · have hlt2 : ¬ (k : Int) < (l.length : Int) := by omega
        go_wp2_with fail
        go_ret
        exact ⟨⟨c, rfl, .inr ⟨hc0, hc1, by omega, by have := HA.out; rw [List.take_of_length_le (by omega)] at this; exact this⟩⟩, hbel⟩
/-- Which reads stand already at their places. -/
def partRd (w : World) (base : Nat) (xs : List Value) (l : List Rdg) (k : Nat) : Prop := ∀ i (h : i < l.length), i < k → xs[i * 2]? = some (.string l[i].coll) ∧ ∃ g, xs[i * 2 + 1]? = some (.slice (some ⟨g, 0, none⟩) l[i].f.length l[i].f.length) ∧ MadeC w (base + 1) g l[i].f
set_option maxRecDepth 4000 in
set_option maxHeartbeats 2000000 in
theorem toReadS_any (a : Option Addr) (cap : Nat) (l : List Rdg) (w : World) (hin : InRd w a l) (hlen : l.length ≤ 1048576) (hs : ∀ v ∈ l, szRd v) :
    Calls Tryz.prog 24 #[.slice a l.length cap] w fun e w' => (∃ g, e = .returned (.slice (some ⟨g, 0, none⟩) l.length l.length) ∧ MadeRd w' w.heap.size g l) ∧ Below w.heap.size w w' := by
  obtain ⟨i0, hi, hz0, hz1, hz2⟩ := info_parts infoR
  have HI : Hid (InRd _ _ _) := hin
  have HS : Hid (∀ v ∈ l, szRd v) := hs
  clear hin hs
  go_enter Tryz.func24, Tryz.ntmps24
  go_wp2_with (refine wpList_make_full _ rfl (.tmp 6) (.tmp 6) 33 rfl w.heap.size 80 i0 (.agg #[.string em, .slice none 0 0]) 2 Tryz.underlying33 hi hz0 hz1 .i64 .i64 _ _ l.length rfl rfl rfl rfl (by rw [hz2]; omega) (by unfold maxLen; omega) (Nat.le_refl _) ?_; intro w1 hown1 hgrow1)
  have hb1 : Below w.heap.size w w1 := Below.grown (Below.refl _ _) hgrow1 (Nat.le_refl _) (fun k h => by cases h)
  clear hgrow1
  go_loopw [4] (fun i wr => ∃ (k : Nat) (xs : List Value), k ≤ l.length ∧ i = .int .i64 k ∧ wr.ownsRow w.heap.size 80 2 (.slice (some ⟨w.heap.size, 0, none⟩) l.length l.length) l.length xs ∧ partRd wr w.heap.size xs l k ∧ Below w.heap.size w wr) (fun i _ => l.length - (intOf i).toNat)
  case atStart => exact ⟨0, _, Nat.zero_le _, rfl, hown1, fun i h hi => absurd hi (by omega), hb1⟩
  case round =>
    obtain ⟨k, xs, hk, rfl, hown, hpart, hbel⟩ := hrel
    clear hown1 hb1
    by_cases hlt : k < l.length
    · rcases HI.out.step hbel with h0 | ⟨b, off, rfl, hbl, hc⟩
      · omega
      · have hlt2 : (k : Int) < (l.length : Int) := by omega
        obtain ⟨x0, p, pc, x1, hT⟩ := hc k hlt
        have HC : Hid (Calls _ _ _ _ _) := toRead_any l[k].coll p pc l[k].f wr hT (HS.out l[k] (List.getElem_mem _))
        have hz := hbel.size
        have HO : Hid (World.ownsRow _ _ _ _ _ _ _) := hown
        have HP : Hid (partRd _ _ _ _ _) := hpart
        have HB : Hid (Below _ _ _) := hbel
        have hgl : w.heap.size < wr.heap.size := (hown.lt _ rfl).2
        clear hc hown hbel hT hpart
        go_wp2_with fail
        refine HC.out.mono ?_
        rintro e w2 ⟨⟨g2, rfl, hR2⟩, hb2⟩
        have hown2 := owns_below HO.out hb2
        have hxl : xs.length = l.length * 2 := hown2.1
        obtain ⟨z0, y0⟩ := Tr.own_there hown2 (k * 2) (by omega)
        obtain ⟨z1, y1⟩ := Tr.own_there hown2 (k * 2 + 1) (by omega)
        have f0 := World.ownsRow.frozenAt hown2 (k * 2)
        have f1 := World.ownsRow.frozenAt hown2 (k * 2 + 1)
        have hst := (World.ownsRow.stored (World.ownsRow.stored hown2 (k * 2) (.string l[k].coll)).1 (k * 2 + 1) (.slice (some ⟨g2, 0, none⟩) l[k].f.length l[k].f.length)).1
        have hpart2 : partRd ((w2.setCell ⟨w.heap.size, k * 2, none⟩ (.string l[k].coll)).setCell ⟨w.heap.size, k * 2 + 1, none⟩ (.slice (some ⟨g2, 0, none⟩) l[k].f.length l[k].f.length)) w.heap.size ((xs.set (k * 2) (.string l[k].coll)).set (k * 2 + 1) (.slice (some ⟨g2, 0, none⟩) l[k].f.length l[k].f.length)) l (k + 1) := by
          intro i h hi
          by_cases hik : i = k
          · subst hik
            refine ⟨by rw [List.getElem?_set_ne (by omega), List.getElem?_set_self (by omega)], g2, by rw [List.getElem?_set_self (by rw [List.length_set]; omega)], ?_⟩
            exact ((madeR_mono hR2 (by omega)).set (by omega)).set (by omega)
          · obtain ⟨e0, g, e1, e2⟩ := HP.out i h (by omega)
            refine ⟨by rw [List.getElem?_set_ne (by omega), List.getElem?_set_ne (by omega)]; exact e0, g, by rw [List.getElem?_set_ne (by omega), List.getElem?_set_ne (by omega)]; exact e1, ?_⟩
            exact ((madeR_next e2 hb2).set (by omega)).set (by omega)
        have HST : Hid (World.ownsRow _ _ _ _ _ _ _) := hst
        have HPA : Hid (partRd _ _ _ _ _) := hpart2
        have HB2 : Hid (Below _ _ _) := HB.out.trans (hb2.mono HB.out.size)
        have hz2 := hb2.size
        clear hst hown2 hb2 hpart2 hR2 HC
        go_wp2_with fail
        go_roundw
        case rel => exact ⟨k + 1, _, by omega, by go_num, HST.out, HPA.out, (HB2.out.setCell (Nat.le_refl _) _).setCell (Nat.le_refl _) _⟩
        case measure => simp [intOf]; omega
    · have hlt2 : ¬ (k : Int) < (l.length : Int) := by omega
      have hR : MadeRd wr w.heap.size w.heap.size l := ⟨Nat.le_refl _, (hown.lt _ rfl).2, fun i hi => by
        obtain ⟨e0, g, e1, e2⟩ := hpart i hi (by omega)
        exact ⟨owns_cell hown _ _ e0, g, owns_cell hown _ _ e1, madeR_mono e2 (by omega)⟩⟩
      have HR : Hid (MadeRd _ _ _ _) := hR
      clear hR hpart hown
      go_wp2_with fail
      go_ret
      exact ⟨⟨w.heap.size, rfl, HR.out⟩, hbel⟩
theorem keepRr {w w0 : World} {g1 g2 i : Nat} {a b c d : Value} (h1 : g1 < w.heap.size) (h2 : g2 < w.heap.size) (x0 : w.cell? ⟨g1, i * 2, none⟩ = some a) (x1 : w.cell? ⟨g1, i * 2 + 1, none⟩ = some b) (y0 : w.cell? ⟨g2, i * 2, none⟩ = some c) (y1 : w.cell? ⟨g2, i * 2 + 1, none⟩ = some d) (hb : Below w.heap.size w w0) :
    w0.cell? ⟨g1, i * 2, none⟩ = some a ∧ w0.cell? ⟨g1, i * 2 + 1, none⟩ = some b ∧ w0.cell? ⟨g2, i * 2, none⟩ = some c ∧ w0.cell? ⟨g2, i * 2 + 1, none⟩ = some d :=
  ⟨(hb.cell (p := ⟨g1, i * 2, none⟩) h1).trans x0, (hb.cell (p := ⟨g1, i * 2 + 1, none⟩) h1).trans x1, (hb.cell (p := ⟨g2, i * 2, none⟩) h2).trans y0, (hb.cell (p := ⟨g2, i * 2 + 1, none⟩) h2).trans y1⟩
set_option maxRecDepth 4000 in
set_option maxHeartbeats 2000000 in
theorem eqReadS_same (g1 g2 c1 c2 b1 b2 : Nat) (l : List Rdg) (w : World) (h1 : MadeRd w b1 g1 l) (h2 : MadeRd w b2 g2 l) (hlen : l.length ≤ 1048576) (hs : ∀ v ∈ l, szRd v) :
    Calls Tryz.prog 31 #[.slice (some ⟨g1, 0, none⟩) l.length c1, .slice (some ⟨g2, 0, none⟩) l.length c2] w fun e w' => e = .returned (.bool true) ∧ Below w.heap.size w w' := by
  have H1 : Hid (MadeRd _ _ _ _) := h1
  have H2 : Hid (MadeRd _ _ _ _) := h2
  have HS : Hid (∀ v ∈ l, szRd v) := hs
  clear h1 h2 hs
  go_enter Tryz.func31, Tryz.ntmps31
  go_wp2_with fail
  go_loopw [5] (fun i wr => ∃ k : Nat, k ≤ l.length ∧ i = .int .i64 k ∧ Below w.heap.size w wr) (fun i _ => l.length - (intOf i).toNat)
  case atStart => exact ⟨0, Nat.zero_le _, rfl, Below.refl _ _⟩
  case round =>
    obtain ⟨k, hk, rfl, hbel⟩ := hrel
    by_cases hlt : k < l.length
    · have hlt2 : (k : Int) < (l.length : Int) := by omega
      have R1 := H1.out.next hbel
      have R2 := H2.out.next hbel
      obtain ⟨x0, ga, x1, xa⟩ := R1.cells k hlt
      obtain ⟨y0, gb, y1, yb⟩ := R2.cells k hlt
      have hg1 := R1.lt
      have hg2 := R2.lt
      have hsk := HS.out l[k] (List.getElem_mem _)
      obtain ⟨x, hx⟩ : ∃ x, x = l[k] := ⟨_, rfl⟩
      rw [← hx] at x0 x1 xa y0 y1 yb hsk
      have HC : Hid (∀ W : World, Below wr.heap.size wr W → Calls Tryz.prog 61 #[.agg #[.string x.coll, .slice (some ⟨ga, 0, none⟩) x.f.length x.f.length], .agg #[.string x.coll, .slice (some ⟨gb, 0, none⟩) x.f.length x.f.length]] W fun e w' => e = .returned (.bool true) ∧ Below W.heap.size W w') := fun W hW => eqRead_same x.coll (some ⟨ga, 0, none⟩) (some ⟨gb, 0, none⟩) x.f.length x.f.length x.f W (.inr ⟨ga, rfl, xa.read.next hW⟩) (.inr ⟨gb, rfl, yb.read.next hW⟩) hsk
      clear hx hsk
      clear R1 R2 xa yb
      go_wp2_with fail
      go_region_held3 (fun w0 => w0.cell? ⟨g1, k * 2, none⟩ = some (.string x.coll) ∧ w0.cell? ⟨g1, k * 2 + 1, none⟩ = some (.slice (some ⟨ga, 0, none⟩) x.f.length x.f.length) ∧ w0.cell? ⟨g2, k * 2, none⟩ = some (.string x.coll) ∧ w0.cell? ⟨g2, k * 2 + 1, none⟩ = some (.slice (some ⟨gb, 0, none⟩) x.f.length x.f.length)) ((refine keepRr hg1 hg2 x0 x1 y0 y1 ?_; (repeat (first | (with_reducible exact Below.refl _ _) | (with_reducible assumption) | (with_reducible apply below_drewN) | (with_reducible apply Below.drew) | ((with_reducible refine Below.setCell ?_ ?_ _); rotate_left; focus (first | (simp; done) | (simp; omega) | omega)) | ((with_reducible refine Below.alloc ?_ ?_ _); rotate_left; focus (first | (simp; done) | (simp; omega) | omega)))))) ((go_at_call 61; refine (HC.out _ (by (repeat (first | (with_reducible exact Below.refl _ _) | (with_reducible assumption) | (with_reducible apply below_drewN) | (with_reducible apply Below.drew) | ((with_reducible refine Below.setCell ?_ ?_ _); rotate_left; focus (first | (simp; done) | (simp; omega) | omega)) | ((with_reducible refine Below.alloc ?_ ?_ _); rotate_left; focus (first | (simp; done) | (simp; omega) | omega)))))).mono ?_; rintro e w2 ⟨rfl, hb⟩; have hB2 : Below wr.heap.size wr w2 := (show Below wr.heap.size wr _ by (repeat (first | (with_reducible exact Below.refl _ _) | (with_reducible assumption) | (with_reducible apply below_drewN) | (with_reducible apply Below.drew) | ((with_reducible refine Below.setCell ?_ ?_ _); rotate_left; focus (first | (simp; done) | (simp; omega) | omega)) | ((with_reducible refine Below.alloc ?_ ?_ _); rotate_left; focus (first | (simp; done) | (simp; omega) | omega))))).trans (hb.mono (by simp)); clear hb))
      all_goals
        have hb2 := hbel.trans (hB2.mono hbel.size)
        go_wp2_with fail
        go_roundw
        case rel => exact ⟨k + 1, by omega, by go_num, hb2⟩
        case measure => simp [intOf]; omega
    · have hlt2 : ¬ (k : Int) < (l.length : Int) := by omega
      go_wp2_with fail
      go_ret
      exact ⟨rfl, hbel⟩

end Go.Proofs.YtcggkeleaepebaaGreatDoor.Rea
