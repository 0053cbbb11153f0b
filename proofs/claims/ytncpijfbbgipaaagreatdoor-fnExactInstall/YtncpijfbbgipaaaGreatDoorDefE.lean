/- Rows of an index's parts: what the laws' own helpers on them answer. -/
import Derived.Test.YtncpijfbbgipaaaGreatDoorTrB
namespace Go.Proofs.YtncpijfbbgipaaaGreatDoor.Tr
open Go.RowKit
set_option linter.unusedVariables false

/-- A part of an index's definition. -/
structure Prt where
  path : ByteArray
  desc : Bool
theorem infoD : (Tryz.prog.info? 112).map (fun i => (i.zero, i.size, i.bytes)) = some (some (.agg #[.string em, .bool false]), 2, 24) := by kernel_rfl
def zpt : Prt := ⟨em, false⟩
def rowD (t : Prt) : List Value := [.string t.path, .bool t.desc]
def flatD (l : List Prt) : List Value := l.flatMap rowD
theorem flatD_snoc (l : List Prt) (f : Prt) : flatD (l ++ [f]) = flatD l ++ rowD f := by unfold flatD; simp
theorem flatD_app (a b : List Prt) : flatD (a ++ b) = flatD a ++ flatD b := by unfold flatD; simp
theorem flatD_cons (v : Prt) (l : List Prt) : flatD (v :: l) = .string v.path :: .bool v.desc :: flatD l := rfl
theorem flatD_len (l : List Prt) : (flatD l).length = l.length * 2 := by
  induction l with
  | nil => rfl
  | cons v l ih => rw [flatD_cons]; simp [ih]; omega
theorem flatD_get : ∀ (l : List Prt) (i : Nat) (h : i < l.length), (flatD l)[i * 2]? = some (.string l[i].path) ∧ (flatD l)[i * 2 + 1]? = some (.bool l[i].desc)
  | v :: l, 0, _ => ⟨rfl, rfl⟩
  | v :: l, i + 1, h => by
    have ih := flatD_get l i (by simpa using h)
    have e : flatD (v :: l) = rowD v ++ flatD l := by unfold flatD; simp
    rw [e, show (i + 1) * 2 = i * 2 + 2 by omega]
    have hl : (rowD v).length = 2 := rfl
    refine ⟨?_, ?_⟩
    · rw [List.getElem?_append_right (by omega), hl]; simpa using ih.1
    · rw [List.getElem?_append_right (by omega), hl, show i * 2 + 2 + 1 - 2 = i * 2 + 1 by omega]; simpa using ih.2
theorem flatD_set : ∀ (l : List Prt) (k : Nat) (v : Prt), k < l.length → ((flatD l).set (k * 2) (.string v.path)).set (k * 2 + 1) (.bool v.desc) = flatD (l.set k v)
  | [], k, v, h => by simp at h
  | u :: l, 0, v, _ => rfl
  | u :: l, k + 1, v, h => by
    rw [List.set_cons_succ, flatD_cons, flatD_cons, ← flatD_set l k v (by simpa using h)]
    rw [show (k + 1) * 2 = k * 2 + 1 + 1 by omega]
    rfl
/-- A row of parts that stands at a block's head. -/
structure ReadD (w : World) (g : Nat) (l : List Prt) : Prop where
  lt : g < w.heap.size
  cells : ∀ i (h : i < l.length), w.cell? ⟨g, i * 2, none⟩ = some (.string l[i].path) ∧ w.cell? ⟨g, i * 2 + 1, none⟩ = some (.bool l[i].desc)
theorem ReadD.step {w w' : World} {g base : Nat} {l : List Prt} (h : ReadD w g l) (hb : Below base w w') (hg : g < base) : ReadD w' g l :=
  ⟨Nat.lt_of_lt_of_le h.lt hb.size, fun i hi => ⟨(hb.cell hg).trans (h.cells i hi).1, (hb.cell hg).trans (h.cells i hi).2⟩⟩
theorem ReadD.next {w w' : World} {g : Nat} {l : List Prt} (h : ReadD w g l) (hb : Below w.heap.size w w') : ReadD w' g l := h.step hb h.lt
theorem ReadD.grown {w w' : World} {g : Nat} {l : List Prt} {row : Option Nat} (h : ReadD w g l) (hg : w.grownBy w' row) (hne : some g ≠ row) : ReadD w' g l :=
  ⟨Nat.lt_of_lt_of_le h.lt hg.size, fun i hi => ⟨(World.cell?_of_block (hg.block g h.lt hne)).trans (h.cells i hi).1, (World.cell?_of_block (hg.block g h.lt hne)).trans (h.cells i hi).2⟩⟩
theorem ReadD.of_own {w : World} {base g cap : Nat} {l : List Prt} (h : w.ownsRow base 112 2 (.slice (some ⟨g, 0, none⟩) l.length cap) l.length (flatD l)) : ReadD w g l :=
  ⟨(h.lt g rfl).2, fun i hi => ⟨owns_cell h _ _ (flatD_get l i hi).1, owns_cell h _ _ (flatD_get l i hi).2⟩⟩
/-- A row of parts, a nil one too. -/
def RowD (w : World) (p : Option Addr) (l : List Prt) : Prop := l = [] ∨ ∃ g, p = some ⟨g, 0, none⟩ ∧ ReadD w g l
theorem RowD.next {w w' : World} {p : Option Addr} {l : List Prt} (h : RowD w p l) (hb : Below w.heap.size w w') : RowD w' p l := by
  rcases h with h | ⟨g, hp, hr⟩
  · exact .inl h
  · exact .inr ⟨g, hp, hr.next hb⟩
/-- Parts that came in. -/
def InD (w : World) (a : Option Addr) (l : List Prt) : Prop := l.length = 0 ∨ ∃ b off, a = some ⟨b, off, none⟩ ∧ b < w.heap.size ∧ ∀ i (h : i < l.length), w.cell? ⟨b, off + i * 2, none⟩ = some (.string l[i].path) ∧ w.cell? ⟨b, off + i * 2 + 1, none⟩ = some (.bool l[i].desc)
theorem InD.step {w w' : World} {a : Option Addr} {l : List Prt} (h : InD w a l) (hb : Below w.heap.size w w') : InD w' a l := by
  rcases h with h | ⟨b, off, ha, hlt, hc⟩
  · exact .inl h
  · exact .inr ⟨b, off, ha, Nat.lt_of_lt_of_le hlt hb.size, fun i hi => ⟨(hb.cell hlt).trans (hc i hi).1, (hb.cell hlt).trans (hc i hi).2⟩⟩
theorem ReadD.inD {w : World} {g : Nat} {l : List Prt} (h : ReadD w g l) : InD w (some ⟨g, 0, none⟩) l :=
  .inr ⟨g, 0, rfl, h.lt, fun i hi => by rw [Nat.zero_add]; exact h.cells i hi⟩
theorem InD.grown {w w' : World} {a : Option Addr} {l : List Prt} {row : Option Nat} (h : InD w a l) (hg : w.grownBy w' row) (hne : ∀ b off, a = some ⟨b, off, none⟩ → some b ≠ row) : InD w' a l := by
  rcases h with h | ⟨b, off, ha, hlt, hc⟩
  · exact .inl h
  · have hb := hg.block b hlt (hne b off ha)
    exact .inr ⟨b, off, ha, Nat.lt_of_lt_of_le hlt hg.size, fun i hi => ⟨(World.cell?_of_block hb).trans (hc i hi).1, (World.cell?_of_block hb).trans (hc i hi).2⟩⟩
/-- Parts that their owner may write, all of it from block number base on. -/
def OwnD (w : World) (base : Nat) (v : Value) (l : List Prt) : Prop := w.ownsRow base 112 2 v l.length (flatD l)
theorem OwnD.form {w : World} {base : Nat} {v : Value} {l : List Prt} (h : OwnD w base v l) : (v = .slice none 0 0 ∧ l = []) ∨ ∃ g cap, v = .slice (some ⟨g, 0, none⟩) l.length cap ∧ base ≤ g ∧ g < w.heap.size := by
  have hlt := World.ownsRow.lt h
  obtain ⟨h1, h2⟩ := h
  rcases h2 with ⟨h2, h3⟩ | ⟨g, cap, cur, hv, hg, hh, r⟩
  · exact .inl ⟨h2, List.length_eq_zero_iff.1 h3⟩
  · exact .inr ⟨g, cap, hv, hg, (hlt g (by rw [hv]; rfl)).2⟩
theorem OwnD.inD {w : World} {base : Nat} {v : Value} {l : List Prt} (h : OwnD w base v l) : ∃ p cap, v = .slice p l.length cap ∧ InD w p l := by
  rcases h.form with ⟨rfl, rfl⟩ | ⟨g, cap, rfl, _, _⟩
  · exact ⟨none, 0, rfl, .inl rfl⟩
  · exact ⟨_, cap, rfl, (ReadD.of_own h).inD⟩
/-- The first k parts, and zero ones behind them. -/
def mixD (l : List Prt) (k : Nat) : List Prt := l.take k ++ List.replicate (l.length - k) zpt
theorem mixD_len (l : List Prt) (k : Nat) (h : k ≤ l.length) : (mixD l k).length = l.length := by unfold mixD; simp; omega
theorem mixD_full (l : List Prt) (k : Nat) (h : l.length ≤ k) : mixD l k = l := by
  unfold mixD; rw [List.take_of_length_le h, Nat.sub_eq_zero_of_le h]; simp
theorem mixD_set (l : List Prt) (k : Nat) (h : k < l.length) : (mixD l k).set k l[k] = mixD l (k + 1) := by
  unfold mixD
  have hl : (l.take k).length = k := by simp; omega
  rw [List.take_succ_eq_append_getElem h, List.append_assoc, List.set_append_right _ _ (by omega)]
  congr 1
  rw [hl, Nat.sub_self]
  obtain ⟨m, hm⟩ : ∃ m, l.length - k = m + 1 := ⟨l.length - k - 1, by omega⟩
  rw [hm, List.replicate_succ, show l.length - (k + 1) = m by omega]
  rfl
theorem made_zeroD (n : Nat) : (madeCells (Value.agg #[.string em, .bool false]).cells (n * 2)).toList = flatD (List.replicate n zpt) := by
  apply List.ext_getElem?
  intro j
  by_cases hj : j < n * 2
  · have hg := flatD_get (List.replicate n zpt) (j / 2) (by simp; omega)
    simp only [List.getElem_replicate] at hg
    have hc : (Value.agg #[.string em, .bool false]).cells = #[.string em, .bool false] := by rfl
    rw [hc]
    have h3 : j % 2 = 0 ∨ j % 2 = 1 := by omega
    rcases h3 with h3 | h3
    · have e : j = j / 2 * 2 := by omega
      rw [show (flatD (List.replicate n zpt))[j]? = (flatD (List.replicate n zpt))[j / 2 * 2]? by rw [← e], hg.1]
      simp [madeCells, hj, h3, zpt]
    · have e : j = j / 2 * 2 + 1 := by omega
      rw [show (flatD (List.replicate n zpt))[j]? = (flatD (List.replicate n zpt))[j / 2 * 2 + 1]? by rw [← e], hg.2]
      simp [madeCells, hj, h3, zpt]
  · rw [List.getElem?_eq_none (by simp [madeCells]; omega), List.getElem?_eq_none (by rw [flatD_len]; simp; omega)]

def szPt (t : Prt) : Prop := t.path.size ≤ 1048576
def maxPt (t : Prt) : Prop := t.path.size ≤ maxLen
theorem take_allD (p : Prt → Prop) (l : List Prt) (k : Nat) (h : k < l.length) (h1 : ∀ v ∈ l.take k, p v) (h2 : p l[k]) : ∀ v ∈ l.take (k + 1), p v := by
  intro v hv
  rw [List.take_succ_eq_append_getElem h] at hv
  rcases List.mem_append.mp hv with hv | hv
  · exact h1 v hv
  · rw [List.mem_singleton.mp hv]; exact h2

set_option maxHeartbeats 1000000 in
theorem szPart_any (key : ByteArray) (id : Bool) (c : Int) (w : World) (hs : key.size ≤ maxLen) (hc : 0 ≤ c) (hc2 : c ≤ 1048576) :
    Calls Tryz.prog 98 #[.agg #[.string key, .bool id], .int .i64 c] w fun e w' => (∃ r : Int, e = .returned (.int .i64 r) ∧ (r < 0 ∨ (0 ≤ r ∧ r ≤ c ∧ key.size ≤ 1048576))) ∧ Below w.heap.size w w' := by
  unfold maxLen at hs
  by_cases h : c < key.size
  · go_enter Tryz.func98, Tryz.ntmps98
    go_wp2
    go_ret
    exact ⟨⟨-1, rfl, .inl (by omega)⟩, (Below.refl _ _).alloc (Nat.le_refl _) _⟩
  · go_enter Tryz.func98, Tryz.ntmps98
    go_wp2
    go_ret
    exact ⟨⟨_, rfl, .inr ⟨by omega, by omega, by omega⟩⟩, (Below.refl _ _).alloc (Nat.le_refl _) _⟩
set_option maxHeartbeats 1000000 in
theorem toPart_any (key : ByteArray) (id : Bool) (w : World) :
    Calls Tryz.prog 104 #[.agg #[.string key, .bool id]] w fun e w' => e = .returned (.agg #[.string key, .bool id]) ∧ Below w.heap.size w w' := by
  go_enter Tryz.func104, Tryz.ntmps104
  go_wp2
  exact bodyPost_ret (v := .agg #[.string key, .bool id]) (by simp [results, Tryz.results104, go_sem]) rfl ⟨rfl, by (repeat (first | (with_reducible exact Below.refl _ _) | (with_reducible assumption) | (with_reducible apply below_drewN) | (with_reducible apply Below.drew) | ((with_reducible refine Below.setCell ?_ ?_ _); rotate_left; focus (first | (simp; done) | (simp; omega) | omega)) | ((with_reducible refine Below.alloc ?_ ?_ _); rotate_left; focus (first | (simp; done) | (simp; omega) | omega))))⟩
set_option maxRecDepth 4000 in
set_option maxHeartbeats 1000000 in
theorem szPartS_any (a : Option Addr) (cap : Nat) (l : List Prt) (c0 : Int) (w : World) (hin : InD w a l) (hl : l.length ≤ maxLen) (hs : ∀ v ∈ l, maxPt v) (h0 : 0 ≤ c0) (h1 : c0 ≤ 1048576) :
    Calls Tryz.prog 71 #[.slice a l.length cap, .int .i64 c0] w fun e w' => (∃ r : Int, e = .returned (.int .i64 r) ∧ (r < 0 ∨ (0 ≤ r ∧ r ≤ c0 ∧ l.length ≤ 1048576 ∧ ∀ v ∈ l, szPt v))) ∧ Below w.heap.size w w' := by
  unfold maxLen at hl
  have HI : Hid _ := hin
  have HS : Hid _ := hs
  clear hin hs
  by_cases hbig : c0 < (l.length : Int)
  · have hneg : c0 - (l.length : Int) < 0 := by omega
    go_enter Tryz.func71, Tryz.ntmps71
    go_wp2_with fail
    go_ret
    exact ⟨⟨-1, rfl, .inl (by omega)⟩, Below.refl _ _⟩
  · have hneg : ¬ c0 - (l.length : Int) < 0 := by omega
    go_enter Tryz.func71, Tryz.ntmps71
    go_wp2_with fail
    go_loopw [1, 5] (fun u i wr => ∃ k : Nat, k ≤ l.length ∧ i = .int .i64 k ∧ ∃ c : Int, u = .int .i64 c ∧ 0 ≤ c ∧ c ≤ c0 ∧ (∀ v ∈ l.take k, szPt v) ∧ Below w.heap.size w wr) (fun _ i _ => l.length - (intOf i).toNat)
    case atStart => exact ⟨0, Nat.zero_le _, rfl, _, rfl, by omega, by omega, (fun v hv => by simp at hv), Below.refl _ _⟩
    case round =>
      obtain ⟨k, hk, rfl, c, rfl, hc0, hc1, hall, hbel⟩ := hrel
      have HA : Hid _ := hall
      clear hall
      by_cases hlt : k < l.length
      · rcases HI.out with h0' | ⟨b, off, rfl, hbl, hcell⟩
        · omega
        · have hlt2 : (k : Int) < (l.length : Int) := by omega
          have x0 := (hbel.cell hbl).trans (hcell k hlt).1
          have x1 := (hbel.cell hbl).trans (hcell k hlt).2
          have hsz := HS.out l[k] (List.getElem_mem _)
          clear hcell
          go_wp2_with fail
          refine (szPart_any _ _ c _ hsz hc0 (by omega)).mono ?_
          rintro e w1 ⟨⟨r, rfl, hr⟩, hb⟩
          have hb1 := hbel.trans (hb.mono hbel.size)
          clear hb
          rcases hr with hneg2 | ⟨hr0, hr1, hr2⟩
          · go_wp2_with fail
            go_ret
            exact ⟨⟨-1, rfl, .inl (by omega)⟩, hb1⟩
          · have hnn : ¬ r < 0 := by omega
            have HSZ : Hid (szPt l[k]) := hr2
            clear hr2
            go_wp2_with fail
            go_roundw
            case rel => exact ⟨k + 1, by omega, by go_num, r, rfl, by omega, by omega, take_allD _ l k hlt HA.out HSZ.out, hb1⟩
            case measure => simp [intOf]; omega
      · have hlt2 : ¬ (k : Int) < (l.length : Int) := by omega
        go_wp2_with fail
        go_ret
        exact ⟨⟨c, rfl, .inr ⟨hc0, hc1, by omega, by have := HA.out; rw [List.take_of_length_le (by omega)] at this; exact this⟩⟩, hbel⟩

set_option maxRecDepth 4000 in
set_option maxHeartbeats 1000000 in
theorem toPartS_any (a : Option Addr) (cap : Nat) (l : List Prt) (w : World) (hin : InD w a l) (hlen : l.length ≤ 1048576) :
    Calls Tryz.prog 78 #[.slice a l.length cap] w fun e w' => (∃ g, e = .returned (.slice (some ⟨g, 0, none⟩) l.length l.length) ∧ OwnD w' w.heap.size (.slice (some ⟨g, 0, none⟩) l.length l.length) l) ∧ Below w.heap.size w w' := by
  obtain ⟨i0, hi, hz0, hz1, hz2⟩ := info_parts infoD
  have HI : Hid _ := hin
  clear hin
  go_enter Tryz.func78, Tryz.ntmps78
  go_wp2_with (refine wpList_make_full _ rfl (.tmp 6) (.tmp 6) 84 rfl w.heap.size 112 i0 (.agg #[.string em, .bool false]) 2 Tryz.underlying84 hi hz0 hz1 .i64 .i64 _ _ l.length rfl rfl rfl rfl (by rw [hz2]; omega) (by unfold maxLen; omega) (Nat.le_refl _) ?_; intro w1 hown1 hgrow1)
  have hb1 : Below w.heap.size w w1 := Below.grown (Below.refl _ _) hgrow1 (Nat.le_refl _) (fun k h => by cases h)
  have hz : w.heap.size < w1.heap.size := (World.ownsRow.lt hown1 w.heap.size rfl).2
  rw [made_zeroD, show List.replicate l.length zpt = mixD l 0 from by simp [mixD]] at hown1
  clear hgrow1
  go_loopw [4] (fun i wr => ∃ k : Nat, k ≤ l.length ∧ i = .int .i64 k ∧ wr.ownsRow w.heap.size 112 2 (.slice (some ⟨w.heap.size, 0, none⟩) l.length l.length) l.length (flatD (mixD l k)) ∧ Below w.heap.size w wr) (fun i _ => l.length - (intOf i).toNat)
  case atStart => exact ⟨0, Nat.zero_le _, rfl, hown1, hb1⟩
  case round =>
    obtain ⟨k, hk, rfl, hown, hbel⟩ := hrel
    clear hown1 hb1 hz
    by_cases hlt : k < l.length
    · rcases HI.out with h0 | ⟨b, off, rfl, hbl, hc⟩
      · omega
      · have hlt2 : (k : Int) < (l.length : Int) := by omega
        have x0 := (hbel.cell hbl).trans (hc k hlt).1
        have x1 := (hbel.cell hbl).trans (hc k hlt).2
        have hz := hbel.size
        have HO : Hid (World.ownsRow _ _ _ _ _ _ _) := hown
        have HB : Hid _ := hbel
        have hgl : w.heap.size < wr.heap.size := (hown.lt _ rfl).2
        clear hc hown hbel
        go_wp2_with fail
        refine (toPart_any _ _ _).mono ?_
        rintro e w2 ⟨rfl, hb2⟩
        have hown2 := owns_below HO.out hb2
        have hm := mixD_len l k hk
        have hg := flatD_get (mixD l k) k (by omega)
        obtain ⟨z0, y0⟩ : ∃ u, w2.cell? ⟨w.heap.size, k * 2, none⟩ = some u := ⟨_, owns_cell hown2 _ _ hg.1⟩
        obtain ⟨z1, y1⟩ : ∃ u, w2.cell? ⟨w.heap.size, k * 2 + 1, none⟩ = some u := ⟨_, owns_cell hown2 _ _ hg.2⟩
        have f0 := World.ownsRow.frozenAt hown2 (k * 2)
        have f1 := World.ownsRow.frozenAt hown2 (k * 2 + 1)
        have hst := (World.ownsRow.stored (World.ownsRow.stored hown2 (k * 2) (.string l[k].path)).1 (k * 2 + 1) (.bool l[k].desc)).1
        rw [flatD_set _ _ _ (by omega), mixD_set l k hlt] at hst
        have HS : Hid (World.ownsRow _ _ _ _ _ _ _) := hst
        have HB2 : Hid _ := HB.out.trans (hb2.mono HB.out.size)
        have hz2 := hb2.size
        clear hst hown2 hg hm hb2
        go_wp2_with fail
        go_roundw
        case rel => exact ⟨k + 1, by omega, by go_num, HS.out, (HB2.out.setCell (Nat.le_refl _) _).setCell (Nat.le_refl _) _⟩
        case measure => simp [intOf]; omega
    · have hlt2 : ¬ (k : Int) < (l.length : Int) := by omega
      go_wp2_with fail
      go_ret
      rw [mixD_full l k (by omega)] at hown
      exact ⟨⟨w.heap.size, rfl, hown⟩, hbel⟩

set_option maxRecDepth 4000 in
set_option maxHeartbeats 1000000 in
theorem eqPart_same (key : ByteArray) (id : Bool) (w : World) :
    Calls Tryz.prog 118 #[.agg #[.string key, .bool id], .agg #[.string key, .bool id]] w fun e w' => e = .returned (.bool true) ∧ Below w.heap.size w w' := by
  go_enter Tryz.func118, Tryz.ntmps118
  go_wp2_with fail
  go_ret
  exact ⟨rfl, by (repeat (first | (with_reducible exact Below.refl _ _) | (with_reducible assumption) | (with_reducible apply below_drewN) | (with_reducible apply Below.drew) | ((with_reducible refine Below.setCell ?_ ?_ _); rotate_left; focus (first | (simp; done) | (simp; omega) | omega)) | ((with_reducible refine Below.alloc ?_ ?_ _); rotate_left; focus (first | (simp; done) | (simp; omega) | omega))))⟩
set_option maxRecDepth 4000 in
set_option maxHeartbeats 1000000 in
theorem eqPartS_same (p1 p2 : Option Addr) (c1 c2 : Nat) (l : List Prt) (w : World) (h1 : InD w p1 l) (h2 : InD w p2 l) (hlen : l.length ≤ 1048576) :
    Calls Tryz.prog 96 #[.slice p1 l.length c1, .slice p2 l.length c2] w fun e w' => e = .returned (.bool true) ∧ Below w.heap.size w w' := by
  have H1 : Hid (InD _ _ _) := h1
  have H2 : Hid (InD _ _ _) := h2
  clear h1 h2
  go_enter Tryz.func96, Tryz.ntmps96
  go_wp2_with fail
  go_loopw [5] (fun i wr => ∃ k : Nat, k ≤ l.length ∧ i = .int .i64 k ∧ Below w.heap.size w wr) (fun i _ => l.length - (intOf i).toNat)
  case atStart => exact ⟨0, Nat.zero_le _, rfl, Below.refl _ _⟩
  case round =>
    obtain ⟨k, hk, rfl, hbel⟩ := hrel
    by_cases hlt : k < l.length
    · rcases H1.out.step hbel with h0 | ⟨g1, o1, rfl, l1, x1⟩
      · omega
      rcases H2.out.step hbel with h0 | ⟨g2, o2, rfl, l2, x2⟩
      · omega
      have hk1 : (k : Int) < (l.length : Int) := by omega
      have q0 : ∀ u : Under wr, u.x.cell? ⟨g1, o1 + k * 2, none⟩ = some (.string l[k].path) := fun u => (u.h.cell l1).trans (x1 k hlt).1
      have r0 : ∀ u : Under wr, u.x.cell? ⟨g2, o2 + k * 2, none⟩ = some (.string l[k].path) := fun u => (u.h.cell l2).trans (x2 k hlt).1
      have q1 : ∀ u : Under wr, u.x.cell? ⟨g1, o1 + k * 2 + 1, none⟩ = some (.bool l[k].desc) := fun u => (u.h.cell l1).trans (x1 k hlt).2
      have r1 : ∀ u : Under wr, u.x.cell? ⟨g2, o2 + k * 2 + 1, none⟩ = some (.bool l[k].desc) := fun u => (u.h.cell l2).trans (x2 k hlt).2
      have hnu : Nonempty (Under wr) := ⟨⟨wr, Below.refl _ _⟩⟩
      clear x1 x2
      go_wp2_with fail
      refine wp_region_under (by kernel_rfl) (by kernel_rfl) ?_
      repeat (go_big_quiet_step ((go_at_call 118; exact calls_under _ (eqPart_same l[k].path l[k].desc _))))
      refine wpQuiet_nil ?_
      rintro _ ⟨u, rfl⟩
      go_wp2_with fail
      go_roundw
      case rel => exact ⟨k + 1, by omega, by go_num, hbel.trans (u.h.mono hbel.size)⟩
      case measure => simp [intOf]; omega
    · have hlt2 : ¬ (k : Int) < (l.length : Int) := by omega
      go_wp2_with fail
      go_ret
      exact ⟨rfl, hbel⟩

end Go.Proofs.YtncpijfbbgipaaaGreatDoor.Tr
