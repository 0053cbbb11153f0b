/- Rows of terms: what the laws' own helpers on them answer. -/
import Derived.Test.YtcggkeleaepebaaGreatDoorTermL
import Derived.Test.YtcggkeleaepebaaGreatDoorRowV
import Derived.Test.YtcggkeleaepebaaGreatDoorTermW
import Derived.Deep.Slices
import Derived.Deep.Strs
import Derived.Lib.SmallJoins
import Derived.OpenShut
import Derived.ChangeSame
import Derived.Deep.RegionHeld3
namespace Go.Proofs.YtcggkeleaepebaaGreatDoor
open Go.RowKit
set_option linter.unusedVariables false

/-- A term, its texts as bytes. -/
structure Trm where
  op : Int
  p : ByteArray
  c : Val
theorem infoT : (Tryz.prog.info? 144).map (fun i => (i.zero, i.size, i.bytes)) = some (some (.agg #[.int .i64 0, .string em, .int .i64 0, .int .i64 0, .string em]), 5, 56) := by kernel_rfl
def zt : Trm := ⟨0, em, zv⟩
def rowT (t : Trm) : List Value := [.int .i64 t.op, .string t.p, .int .i64 t.c.k, .int .i64 t.c.n, .string t.c.t]
def flatT (l : List Trm) : List Value := l.flatMap rowT
theorem flatT_snoc (l : List Trm) (f : Trm) : flatT (l ++ [f]) = flatT l ++ rowT f := by unfold flatT; simp
theorem flatT_app (a b : List Trm) : flatT (a ++ b) = flatT a ++ flatT b := by unfold flatT; simp
theorem flatT_cons (v : Trm) (l : List Trm) : flatT (v :: l) = .int .i64 v.op :: .string v.p :: .int .i64 v.c.k :: .int .i64 v.c.n :: .string v.c.t :: flatT l := rfl
theorem flatT_len (l : List Trm) : (flatT l).length = l.length * 5 := by
  induction l with
  | nil => rfl
  | cons v l ih => rw [flatT_cons]; simp [ih]; omega
theorem flatT_get : ∀ (l : List Trm) (i : Nat) (h : i < l.length), (flatT l)[i * 5]? = some (.int .i64 l[i].op) ∧ (flatT l)[i * 5 + 1]? = some (.string l[i].p) ∧ (flatT l)[i * 5 + 2]? = some (.int .i64 l[i].c.k) ∧ (flatT l)[i * 5 + 3]? = some (.int .i64 l[i].c.n) ∧ (flatT l)[i * 5 + 4]? = some (.string l[i].c.t)
  | v :: l, 0, _ => ⟨rfl, rfl, rfl, rfl, rfl⟩
  | v :: l, i + 1, h => by
    have ih := flatT_get l i (by simpa using h)
    have e : flatT (v :: l) = rowT v ++ flatT l := by unfold flatT; simp
    rw [e, show (i + 1) * 5 = i * 5 + 5 by omega]
    have hl : (rowT v).length = 5 := rfl
    refine ⟨?_, ?_, ?_, ?_, ?_⟩
    · rw [List.getElem?_append_right (by omega), hl]; simpa using ih.1
    · rw [List.getElem?_append_right (by omega), hl, show i * 5 + 5 + 1 - 5 = i * 5 + 1 by omega]; simpa using ih.2.1
    · rw [List.getElem?_append_right (by omega), hl, show i * 5 + 5 + 2 - 5 = i * 5 + 2 by omega]; simpa using ih.2.2.1
    · rw [List.getElem?_append_right (by omega), hl, show i * 5 + 5 + 3 - 5 = i * 5 + 3 by omega]; simpa using ih.2.2.2.1
    · rw [List.getElem?_append_right (by omega), hl, show i * 5 + 5 + 4 - 5 = i * 5 + 4 by omega]; simpa using ih.2.2.2.2
theorem flatT_set : ∀ (l : List Trm) (k : Nat) (v : Trm), k < l.length → (((((flatT l).set (k * 5) (.int .i64 v.op)).set (k * 5 + 1) (.string v.p)).set (k * 5 + 2) (.int .i64 v.c.k)).set (k * 5 + 3) (.int .i64 v.c.n)).set (k * 5 + 4) (.string v.c.t) = flatT (l.set k v)
  | [], k, v, h => by simp at h
  | u :: l, 0, v, _ => rfl
  | u :: l, k + 1, v, h => by
    rw [List.set_cons_succ, flatT_cons, flatT_cons, ← flatT_set l k v (by simpa using h)]
    rw [show (k + 1) * 5 = k * 5 + 1 + 1 + 1 + 1 + 1 by omega]
    rfl
/-- A row of terms that stands at a block's head. -/
structure ReadT (w : World) (g : Nat) (l : List Trm) : Prop where
  lt : g < w.heap.size
  cells : ∀ i (h : i < l.length), w.cell? ⟨g, i * 5, none⟩ = some (.int .i64 l[i].op) ∧ w.cell? ⟨g, i * 5 + 1, none⟩ = some (.string l[i].p) ∧ w.cell? ⟨g, i * 5 + 2, none⟩ = some (.int .i64 l[i].c.k) ∧ w.cell? ⟨g, i * 5 + 3, none⟩ = some (.int .i64 l[i].c.n) ∧ w.cell? ⟨g, i * 5 + 4, none⟩ = some (.string l[i].c.t)
theorem ReadT.step {w w' : World} {g base : Nat} {l : List Trm} (h : ReadT w g l) (hb : Below base w w') (hg : g < base) : ReadT w' g l :=
  ⟨Nat.lt_of_lt_of_le h.lt hb.size, fun i hi => ⟨(hb.cell hg).trans (h.cells i hi).1, (hb.cell hg).trans (h.cells i hi).2.1, (hb.cell hg).trans (h.cells i hi).2.2.1, (hb.cell hg).trans (h.cells i hi).2.2.2.1, (hb.cell hg).trans (h.cells i hi).2.2.2.2⟩⟩
theorem ReadT.next {w w' : World} {g : Nat} {l : List Trm} (h : ReadT w g l) (hb : Below w.heap.size w w') : ReadT w' g l := h.step hb h.lt
theorem ReadT.grown {w w' : World} {g : Nat} {l : List Trm} {row : Option Nat} (h : ReadT w g l) (hg : w.grownBy w' row) (hne : some g ≠ row) : ReadT w' g l :=
  ⟨Nat.lt_of_lt_of_le h.lt hg.size, fun i hi => ⟨(World.cell?_of_block (hg.block g h.lt hne)).trans (h.cells i hi).1, (World.cell?_of_block (hg.block g h.lt hne)).trans (h.cells i hi).2.1, (World.cell?_of_block (hg.block g h.lt hne)).trans (h.cells i hi).2.2.1, (World.cell?_of_block (hg.block g h.lt hne)).trans (h.cells i hi).2.2.2.1, (World.cell?_of_block (hg.block g h.lt hne)).trans (h.cells i hi).2.2.2.2⟩⟩
theorem ReadT.of_own {w : World} {base g cap : Nat} {l : List Trm} (h : w.ownsRow base 144 5 (.slice (some ⟨g, 0, none⟩) l.length cap) l.length (flatT l)) : ReadT w g l :=
  ⟨(h.lt g rfl).2, fun i hi => ⟨owns_cell h _ _ (flatT_get l i hi).1, owns_cell h _ _ (flatT_get l i hi).2.1, owns_cell h _ _ (flatT_get l i hi).2.2.1, owns_cell h _ _ (flatT_get l i hi).2.2.2.1, owns_cell h _ _ (flatT_get l i hi).2.2.2.2⟩⟩
/-- A row of terms, a nil one too. -/
def RowT (w : World) (p : Option Addr) (l : List Trm) : Prop := l = [] ∨ ∃ g, p = some ⟨g, 0, none⟩ ∧ ReadT w g l
theorem RowT.next {w w' : World} {p : Option Addr} {l : List Trm} (h : RowT w p l) (hb : Below w.heap.size w w') : RowT w' p l := by
  rcases h with h | ⟨g, hp, hr⟩
  · exact .inl h
  · exact .inr ⟨g, hp, hr.next hb⟩
/-- Terms that came in. -/
def InT (w : World) (a : Option Addr) (l : List Trm) : Prop := l.length = 0 ∨ ∃ b off, a = some ⟨b, off, none⟩ ∧ b < w.heap.size ∧ ∀ i (h : i < l.length), w.cell? ⟨b, off + i * 5, none⟩ = some (.int .i64 l[i].op) ∧ w.cell? ⟨b, off + i * 5 + 1, none⟩ = some (.string l[i].p) ∧ w.cell? ⟨b, off + i * 5 + 2, none⟩ = some (.int .i64 l[i].c.k) ∧ w.cell? ⟨b, off + i * 5 + 3, none⟩ = some (.int .i64 l[i].c.n) ∧ w.cell? ⟨b, off + i * 5 + 4, none⟩ = some (.string l[i].c.t)
theorem InT.step {w w' : World} {a : Option Addr} {l : List Trm} (h : InT w a l) (hb : Below w.heap.size w w') : InT w' a l := by
  rcases h with h | ⟨b, off, ha, hlt, hc⟩
  · exact .inl h
  · exact .inr ⟨b, off, ha, Nat.lt_of_lt_of_le hlt hb.size, fun i hi => ⟨(hb.cell hlt).trans (hc i hi).1, (hb.cell hlt).trans (hc i hi).2.1, (hb.cell hlt).trans (hc i hi).2.2.1, (hb.cell hlt).trans (hc i hi).2.2.2.1, (hb.cell hlt).trans (hc i hi).2.2.2.2⟩⟩
/-- The first k terms, and zero ones behind them. -/
def mixT (l : List Trm) (k : Nat) : List Trm := l.take k ++ List.replicate (l.length - k) zt
theorem mixT_len (l : List Trm) (k : Nat) (h : k ≤ l.length) : (mixT l k).length = l.length := by unfold mixT; simp; omega
theorem mixT_full (l : List Trm) (k : Nat) (h : l.length ≤ k) : mixT l k = l := by
  unfold mixT; rw [List.take_of_length_le h, Nat.sub_eq_zero_of_le h]; simp
theorem mixT_set (l : List Trm) (k : Nat) (h : k < l.length) : (mixT l k).set k l[k] = mixT l (k + 1) := by
  unfold mixT
  have hl : (l.take k).length = k := by simp; omega
  rw [List.take_succ_eq_append_getElem h, List.append_assoc, List.set_append_right _ _ (by omega)]
  congr 1
  rw [hl, Nat.sub_self]
  obtain ⟨m, hm⟩ : ∃ m, l.length - k = m + 1 := ⟨l.length - k - 1, by omega⟩
  rw [hm, List.replicate_succ, show l.length - (k + 1) = m by omega]
  rfl
theorem made_zeroT (n : Nat) : (madeCells (Value.agg #[.int .i64 0, .string em, .int .i64 0, .int .i64 0, .string em]).cells (n * 5)).toList = flatT (List.replicate n zt) := by
  apply List.ext_getElem?
  intro j
  by_cases hj : j < n * 5
  · have hg := flatT_get (List.replicate n zt) (j / 5) (by simp; omega)
    simp only [List.getElem_replicate] at hg
    have hc : (Value.agg #[.int .i64 0, .string em, .int .i64 0, .int .i64 0, .string em]).cells = #[.int .i64 0, .string em, .int .i64 0, .int .i64 0, .string em] := by rfl
    rw [hc]
    have h3 : j % 5 = 0 ∨ j % 5 = 1 ∨ j % 5 = 2 ∨ j % 5 = 3 ∨ j % 5 = 4 := by omega
    rcases h3 with h3 | h3 | h3 | h3 | h3
    · have e : j = j / 5 * 5 := by omega
      rw [show (flatT (List.replicate n zt))[j]? = (flatT (List.replicate n zt))[j / 5 * 5]? by rw [← e], hg.1]
      simp [madeCells, hj, h3, zt, zv]
    · have e : j = j / 5 * 5 + 1 := by omega
      rw [show (flatT (List.replicate n zt))[j]? = (flatT (List.replicate n zt))[j / 5 * 5 + 1]? by rw [← e], hg.2.1]
      simp [madeCells, hj, h3, zt, zv]
    · have e : j = j / 5 * 5 + 2 := by omega
      rw [show (flatT (List.replicate n zt))[j]? = (flatT (List.replicate n zt))[j / 5 * 5 + 2]? by rw [← e], hg.2.2.1]
      simp [madeCells, hj, h3, zt, zv]
    · have e : j = j / 5 * 5 + 3 := by omega
      rw [show (flatT (List.replicate n zt))[j]? = (flatT (List.replicate n zt))[j / 5 * 5 + 3]? by rw [← e], hg.2.2.2.1]
      simp [madeCells, hj, h3, zt, zv]
    · have e : j = j / 5 * 5 + 4 := by omega
      rw [show (flatT (List.replicate n zt))[j]? = (flatT (List.replicate n zt))[j / 5 * 5 + 4]? by rw [← e], hg.2.2.2.2]
      simp [madeCells, hj, h3, zt, zv]
  · rw [List.getElem?_eq_none (by simp [madeCells]; omega), List.getElem?_eq_none (by rw [flatT_len]; simp; omega)]

def szT (t : Trm) : Prop := t.p.size ≤ 1048576 ∧ t.c.t.size ≤ 1048576
def maxT (t : Trm) : Prop := t.p.size ≤ maxLen ∧ t.c.t.size ≤ maxLen
theorem take_allT (p : Trm → Prop) (l : List Trm) (k : Nat) (h : k < l.length) (h1 : ∀ v ∈ l.take k, p v) (h2 : p l[k]) : ∀ v ∈ l.take (k + 1), p v := by
  intro v hv
  rw [List.take_succ_eq_append_getElem h] at hv
  rcases List.mem_append.mp hv with hv | hv
  · exact h1 v hv
  · rw [List.mem_singleton.mp hv]; exact h2

set_option maxRecDepth 4000 in
set_option maxHeartbeats 1000000 in
theorem szTermS_any (a : Option Addr) (cap : Nat) (l : List Trm) (c0 : Int) (w : World) (hin : InT w a l) (hl : l.length ≤ maxLen) (hs : ∀ v ∈ l, maxT v) (h0 : 0 ≤ c0) (h1 : c0 ≤ 1048576) :
    Calls Tryz.prog 127 #[.slice a l.length cap, .int .i64 c0] w fun e w' => (∃ r : Int, e = .returned (.int .i64 r) ∧ (r < 0 ∨ (0 ≤ r ∧ r ≤ c0 ∧ l.length ≤ 1048576 ∧ ∀ v ∈ l, szT v))) ∧ Below w.heap.size w w' := by
  unfold maxLen at hl
  have HI : Hid _ := hin
  have HS : Hid _ := hs
  clear hin hs
  by_cases hbig : c0 < (l.length : Int)
  · have hneg : c0 - (l.length : Int) < 0 := by omega
    go_enter Tryz.func127, Tryz.ntmps127
    go_wp2_with fail
    go_ret
    exact ⟨⟨-1, rfl, .inl (by omega)⟩, Below.refl _ _⟩
  · have hneg : ¬ c0 - (l.length : Int) < 0 := by omega
    go_enter Tryz.func127, Tryz.ntmps127
    go_wp2_with fail
    go_loopw [1, 5] (fun u i wr => ∃ k : Nat, k ≤ l.length ∧ i = .int .i64 k ∧ ∃ c : Int, u = .int .i64 c ∧ 0 ≤ c ∧ c ≤ c0 ∧ (∀ v ∈ l.take k, szT v) ∧ Below w.heap.size w wr) (fun _ i _ => l.length - (intOf i).toNat)
    case atStart => exact ⟨0, Nat.zero_le _, rfl, _, rfl, by omega, by omega, (fun v hv => by simp at hv), Below.refl _ _⟩
    case round =>
      obtain ⟨k, hk, rfl, c, rfl, hc0, hc1, hall, hbel⟩ := hrel
      have HA : Hid _ := hall
      clear hall
      by_cases hlt : k < l.length
      · rcases HI.out with h0' | ⟨b, off, rfl, hbl, hcell⟩
        · omega
        · have hlt2 : (k : Int) < (l.length : Int) := by omega
          have x0 := (hbel.cell hbl).trans (hcell k hlt).1
          have x1 := (hbel.cell hbl).trans (hcell k hlt).2.1
          have x2 := (hbel.cell hbl).trans (hcell k hlt).2.2.1
          have x3 := (hbel.cell hbl).trans (hcell k hlt).2.2.2.1
          have x4 := (hbel.cell hbl).trans (hcell k hlt).2.2.2.2
          have hsz := HS.out l[k] (List.getElem_mem _)
          clear hcell
          go_wp2_with fail
          refine (szTerm_any _ _ _ _ _ c _ hsz.1 hsz.2 hc0 (by omega)).mono ?_
          rintro e w1 ⟨⟨r, rfl, hr⟩, hb⟩
          have hb1 := hbel.trans (hb.mono hbel.size)
          clear hb
          rcases hr with hneg2 | ⟨hr0, hr1, hr2, hr3⟩
          · go_wp2_with fail
            go_ret
            exact ⟨⟨-1, rfl, .inl (by omega)⟩, hb1⟩
          · have hnn : ¬ r < 0 := by omega
            have HSZ : Hid (szT l[k]) := ⟨hr2, hr3⟩
            clear hr2 hr3
            go_wp2_with fail
            go_roundw
            case rel => exact ⟨k + 1, by omega, by go_num, r, rfl, by omega, by omega, take_allT _ l k hlt HA.out HSZ.out, hb1⟩
            case measure => simp [intOf]; omega
      · have hlt2 : ¬ (k : Int) < (l.length : Int) := by omega
        go_wp2_with fail
        go_ret
        exact ⟨⟨c, rfl, .inr ⟨hc0, hc1, by omega, by have := HA.out; rw [List.take_of_length_le (by omega)] at this; exact this⟩⟩, hbel⟩

set_option maxRecDepth 4000 in
set_option maxHeartbeats 1000000 in
theorem toTermS_any (a : Option Addr) (cap : Nat) (l : List Trm) (w : World) (hin : InT w a l) (hlen : l.length ≤ 1048576) :
    Calls Tryz.prog 133 #[.slice a l.length cap] w fun e w' => (∃ g, e = .returned (.slice (some ⟨g, 0, none⟩) l.length l.length) ∧ w.heap.size ≤ g ∧ ReadT w' g l) ∧ Below w.heap.size w w' := by
  obtain ⟨i0, hi, hz0, hz1, hz2⟩ := info_parts infoT
  have HI : Hid _ := hin
  clear hin
  go_enter Tryz.func133, Tryz.ntmps133
  go_wp2_with (refine wpList_make_full _ rfl (.tmp 6) (.tmp 6) 107 rfl w.heap.size 144 i0 (.agg #[.int .i64 0, .string em, .int .i64 0, .int .i64 0, .string em]) 5 Tryz.underlying107 hi hz0 hz1 .i64 .i64 _ _ l.length rfl rfl rfl rfl (by rw [hz2]; omega) (by unfold maxLen; omega) (Nat.le_refl _) ?_; intro w1 hown1 hgrow1)
  have hb1 : Below w.heap.size w w1 := Below.grown (Below.refl _ _) hgrow1 (Nat.le_refl _) (fun k h => by cases h)
  have hz : w.heap.size < w1.heap.size := (World.ownsRow.lt hown1 w.heap.size rfl).2
  rw [made_zeroT, show List.replicate l.length zt = mixT l 0 from by simp [mixT]] at hown1
  clear hgrow1
  go_loopw [4] (fun i wr => ∃ k : Nat, k ≤ l.length ∧ i = .int .i64 k ∧ wr.ownsRow w.heap.size 144 5 (.slice (some ⟨w.heap.size, 0, none⟩) l.length l.length) l.length (flatT (mixT l k)) ∧ Below w.heap.size w wr) (fun i _ => l.length - (intOf i).toNat)
  case atStart => exact ⟨0, Nat.zero_le _, rfl, hown1, hb1⟩
  case round =>
    obtain ⟨k, hk, rfl, hown, hbel⟩ := hrel
    clear hown1 hb1 hz
    by_cases hlt : k < l.length
    · rcases HI.out with h0 | ⟨b, off, rfl, hbl, hc⟩
      · omega
      · have hlt2 : (k : Int) < (l.length : Int) := by omega
        have x0 := (hbel.cell hbl).trans (hc k hlt).1
        have x1 := (hbel.cell hbl).trans (hc k hlt).2.1
        have x2 := (hbel.cell hbl).trans (hc k hlt).2.2.1
        have x3 := (hbel.cell hbl).trans (hc k hlt).2.2.2.1
        have x4 := (hbel.cell hbl).trans (hc k hlt).2.2.2.2
        have hz := hbel.size
        have HO : Hid (World.ownsRow _ _ _ _ _ _ _) := hown
        have HB : Hid _ := hbel
        have hgl : w.heap.size < wr.heap.size := (hown.lt _ rfl).2
        clear hc hown hbel
        go_wp2_with fail
        refine (toTerm_any _ _ _ _ _ _).mono ?_
        rintro e w2 ⟨rfl, hb2⟩
        have hown2 := owns_below HO.out hb2
        have hm := mixT_len l k hk
        have hg := flatT_get (mixT l k) k (by omega)
        obtain ⟨z0, y0⟩ : ∃ u, w2.cell? ⟨w.heap.size, k * 5, none⟩ = some u := ⟨_, owns_cell hown2 _ _ hg.1⟩
        obtain ⟨z1, y1⟩ : ∃ u, w2.cell? ⟨w.heap.size, k * 5 + 1, none⟩ = some u := ⟨_, owns_cell hown2 _ _ hg.2.1⟩
        obtain ⟨z2, y2⟩ : ∃ u, w2.cell? ⟨w.heap.size, k * 5 + 2, none⟩ = some u := ⟨_, owns_cell hown2 _ _ hg.2.2.1⟩
        obtain ⟨z3, y3⟩ : ∃ u, w2.cell? ⟨w.heap.size, k * 5 + 3, none⟩ = some u := ⟨_, owns_cell hown2 _ _ hg.2.2.2.1⟩
        obtain ⟨z4, y4⟩ : ∃ u, w2.cell? ⟨w.heap.size, k * 5 + 4, none⟩ = some u := ⟨_, owns_cell hown2 _ _ hg.2.2.2.2⟩
        have f0 := World.ownsRow.frozenAt hown2 (k * 5)
        have f1 := World.ownsRow.frozenAt hown2 (k * 5 + 1)
        have f2 := World.ownsRow.frozenAt hown2 (k * 5 + 2)
        have f3 := World.ownsRow.frozenAt hown2 (k * 5 + 3)
        have f4 := World.ownsRow.frozenAt hown2 (k * 5 + 4)
        have hst := (World.ownsRow.stored (World.ownsRow.stored (World.ownsRow.stored (World.ownsRow.stored (World.ownsRow.stored hown2 (k * 5) (.int .i64 l[k].op)).1 (k * 5 + 1) (.string l[k].p)).1 (k * 5 + 2) (.int .i64 l[k].c.k)).1 (k * 5 + 3) (.int .i64 l[k].c.n)).1 (k * 5 + 4) (.string l[k].c.t)).1
        rw [flatT_set _ _ _ (by omega), mixT_set l k hlt] at hst
        have HS : Hid (World.ownsRow _ _ _ _ _ _ _) := hst
        have HB2 : Hid _ := HB.out.trans (hb2.mono HB.out.size)
        have hz2 := hb2.size
        clear hst hown2 hg hm hb2
        go_wp2_with fail
        go_roundw
        case rel => exact ⟨k + 1, by omega, by go_num, HS.out, ((((HB2.out.setCell (Nat.le_refl _) _).setCell (Nat.le_refl _) _).setCell (Nat.le_refl _) _).setCell (Nat.le_refl _) _).setCell (Nat.le_refl _) _⟩
        case measure => simp [intOf]; omega
    · have hlt2 : ¬ (k : Int) < (l.length : Int) := by omega
      go_wp2_with fail
      go_ret
      rw [mixT_full l k (by omega)] at hown
      exact ⟨⟨w.heap.size, rfl, Nat.le_refl _, ReadT.of_own hown⟩, hbel⟩

set_option maxRecDepth 4000 in
set_option maxHeartbeats 1000000 in
theorem eqTerm_same (op : Int) (p : ByteArray) (k n : Int) (t : ByteArray) (w : World) :
    Calls Tryz.prog 162 #[.agg #[.int .i64 op, .string p, .int .i64 k, .int .i64 n, .string t], .agg #[.int .i64 op, .string p, .int .i64 k, .int .i64 n, .string t]] w fun e w' => e = .returned (.bool true) ∧ Below w.heap.size w w' := by
  go_enter Tryz.func162, Tryz.ntmps162
  go_wp2_with (go_at_call 90; refine (eqValue_same k n t _).mono ?_; rintro e w1 ⟨rfl, hb⟩)
  go_ret
  exact ⟨rfl, (((Below.refl _ _).alloc (Nat.le_refl _) _).alloc (by simp) _).trans (hb.mono (by simp; omega))⟩
set_option maxRecDepth 4000 in
set_option maxHeartbeats 1000000 in
theorem eqTermS_same (p1 p2 : Option Addr) (c1 c2 : Nat) (l : List Trm) (w : World) (h1 : RowT w p1 l) (h2 : RowT w p2 l) (hlen : l.length ≤ 1048576) :
    Calls Tryz.prog 142 #[.slice p1 l.length c1, .slice p2 l.length c2] w fun e w' => e = .returned (.bool true) ∧ Below w.heap.size w w' := by
  have H1 : Hid (RowT _ _ _) := h1
  have H2 : Hid (RowT _ _ _) := h2
  clear h1 h2
  go_enter Tryz.func142, Tryz.ntmps142
  go_wp2_with fail
  go_loopw [5] (fun i wr => ∃ k : Nat, k ≤ l.length ∧ i = .int .i64 k ∧ Below w.heap.size w wr) (fun i _ => l.length - (intOf i).toNat)
  case atStart => exact ⟨0, Nat.zero_le _, rfl, Below.refl _ _⟩
  case round =>
    obtain ⟨k, hk, rfl, hbel⟩ := hrel
    by_cases hlt : k < l.length
    · rcases H1.out.next hbel with h0 | ⟨g1, rfl, R1⟩
      · subst h0; simp at hlt
      rcases H2.out.next hbel with h0 | ⟨g2, rfl, R2⟩
      · subst h0; simp at hlt
      have x1 := R1.cells k hlt
      have x2 := R2.cells k hlt
      have l1 := R1.lt
      have l2 := R2.lt
      have hk1 : (k : Int) < (l.length : Int) := by omega
      have q0 : ∀ u : Under wr, u.x.cell? ⟨g1, k * 5, none⟩ = some (.int .i64 l[k].op) := fun u => (u.h.cell l1).trans x1.1
      have r0 : ∀ u : Under wr, u.x.cell? ⟨g2, k * 5, none⟩ = some (.int .i64 l[k].op) := fun u => (u.h.cell l2).trans x2.1
      have q1 : ∀ u : Under wr, u.x.cell? ⟨g1, k * 5 + 1, none⟩ = some (.string l[k].p) := fun u => (u.h.cell l1).trans x1.2.1
      have r1 : ∀ u : Under wr, u.x.cell? ⟨g2, k * 5 + 1, none⟩ = some (.string l[k].p) := fun u => (u.h.cell l2).trans x2.2.1
      have q2 : ∀ u : Under wr, u.x.cell? ⟨g1, k * 5 + 2, none⟩ = some (.int .i64 l[k].c.k) := fun u => (u.h.cell l1).trans x1.2.2.1
      have r2 : ∀ u : Under wr, u.x.cell? ⟨g2, k * 5 + 2, none⟩ = some (.int .i64 l[k].c.k) := fun u => (u.h.cell l2).trans x2.2.2.1
      have q3 : ∀ u : Under wr, u.x.cell? ⟨g1, k * 5 + 3, none⟩ = some (.int .i64 l[k].c.n) := fun u => (u.h.cell l1).trans x1.2.2.2.1
      have r3 : ∀ u : Under wr, u.x.cell? ⟨g2, k * 5 + 3, none⟩ = some (.int .i64 l[k].c.n) := fun u => (u.h.cell l2).trans x2.2.2.2.1
      have q4 : ∀ u : Under wr, u.x.cell? ⟨g1, k * 5 + 4, none⟩ = some (.string l[k].c.t) := fun u => (u.h.cell l1).trans x1.2.2.2.2
      have r4 : ∀ u : Under wr, u.x.cell? ⟨g2, k * 5 + 4, none⟩ = some (.string l[k].c.t) := fun u => (u.h.cell l2).trans x2.2.2.2.2
      have hnu : Nonempty (Under wr) := ⟨⟨wr, Below.refl _ _⟩⟩
      clear x1 x2
      go_wp2_with fail
      refine wp_region_under (by kernel_rfl) (by kernel_rfl) ?_
      repeat (go_big_quiet_step ((go_at_call 162; exact calls_under _ (eqTerm_same l[k].op l[k].p l[k].c.k l[k].c.n l[k].c.t _))))
      refine wpQuiet_nil ?_
      rintro _ ⟨u, rfl⟩
      go_wp2_with fail
      go_roundw
      case rel => exact ⟨k + 1, by omega, by go_num, hbel.trans (u.h.mono hbel.size)⟩
      case measure => simp [intOf]; omega
    · have hlt2 : ¬ (k : Int) < (l.length : Int) := by omega
      go_wp2_with fail
      go_ret
      exact ⟨rfl, hbel⟩

end Go.Proofs.YtcggkeleaepebaaGreatDoor

/- Rows of clauses, and filters: what the laws' own helpers on them answer. -/
namespace Go.Proofs.YtcggkeleaepebaaGreatDoor
open Go.RowKit
set_option linter.unusedVariables false

theorem infoC : (Tryz.prog.info? 109).map (fun i => (i.zero, i.size, i.bytes)) = some (some (.agg #[.slice none 0 0]), 1, 24) := by kernel_rfl
/-- A row of clauses that stands at a block's head. -/
structure ReadC (w : World) (g : Nat) (f : List (List Trm)) : Prop where
  lt : g < w.heap.size
  cells : ∀ i (h : i < f.length), ∃ p cap, w.cell? ⟨g, i, none⟩ = some (.slice p f[i].length cap) ∧ RowT w p f[i]
theorem ReadC.next {w w' : World} {g : Nat} {f : List (List Trm)} (h : ReadC w g f) (hb : Below w.heap.size w w') : ReadC w' g f :=
  ⟨Nat.lt_of_lt_of_le h.lt hb.size, fun i hi => by
    obtain ⟨p, cap, hc, hr⟩ := h.cells i hi
    exact ⟨p, cap, (hb.cell h.lt).trans hc, hr.next hb⟩⟩
/-- A row of clauses, a nil one too. -/
def RowC (w : World) (p : Option Addr) (f : List (List Trm)) : Prop := f = [] ∨ ∃ g, p = some ⟨g, 0, none⟩ ∧ ReadC w g f
theorem RowC.next {w w' : World} {p : Option Addr} {f : List (List Trm)} (h : RowC w p f) (hb : Below w.heap.size w w') : RowC w' p f := by
  rcases h with h | ⟨g, hp, hr⟩
  · exact .inl h
  · exact .inr ⟨g, hp, hr.next hb⟩
/-- Clauses that came in. -/
def InCl (w : World) (a : Option Addr) (f : List (List Trm)) : Prop := f.length = 0 ∨ ∃ b off, a = some ⟨b, off, none⟩ ∧ b < w.heap.size ∧ ∀ i (h : i < f.length), ∃ p cap, w.cell? ⟨b, off + i, none⟩ = some (.slice p f[i].length cap) ∧ InT w p f[i]
theorem InCl.step {w w' : World} {a : Option Addr} {f : List (List Trm)} (h : InCl w a f) (hb : Below w.heap.size w w') : InCl w' a f := by
  rcases h with h | ⟨b, off, ha, hlt, hc⟩
  · exact .inl h
  · exact .inr ⟨b, off, ha, Nat.lt_of_lt_of_le hlt hb.size, fun i hi => by
      obtain ⟨p, cap, h1, h2⟩ := hc i hi
      exact ⟨p, cap, (hb.cell hlt).trans h1, h2.step hb⟩⟩
def szC (l : List Trm) : Prop := l.length ≤ 1048576 ∧ ∀ v ∈ l, szT v
def maxC (l : List Trm) : Prop := l.length ≤ maxLen ∧ ∀ v ∈ l, maxT v
theorem take_allC (p : List Trm → Prop) (l : List (List Trm)) (k : Nat) (h : k < l.length) (h1 : ∀ v ∈ l.take k, p v) (h2 : p l[k]) : ∀ v ∈ l.take (k + 1), p v := by
  intro v hv
  rw [List.take_succ_eq_append_getElem h] at hv
  rcases List.mem_append.mp hv with hv | hv
  · exact h1 v hv
  · rw [List.mem_singleton.mp hv]; exact h2

set_option maxRecDepth 4000 in
set_option maxHeartbeats 1000000 in
theorem szClause_any (a : Option Addr) (cap : Nat) (l : List Trm) (c0 : Int) (w : World) (hin : InT w a l) (hm : maxC l) (h0 : 0 ≤ c0) (h1 : c0 ≤ 1048576) :
    Calls Tryz.prog 111 #[.agg #[.slice a l.length cap], .int .i64 c0] w fun e w' => (∃ r : Int, e = .returned (.int .i64 r) ∧ (r < 0 ∨ (0 ≤ r ∧ r ≤ c0 ∧ szC l))) ∧ Below w.heap.size w w' := by
  have hb0 : Below w.heap.size w (w.alloc (.cells #[.slice a l.length cap] 148)) := (Below.refl _ _).alloc (Nat.le_refl _) _
  have HC : Hid (Calls _ _ _ _ _) := szTermS_any a cap l c0 (w.alloc (.cells #[.slice a l.length cap] 148)) (hin.step hb0) hm.1 hm.2 h0 h1
  clear hin hm
  go_enter Tryz.func111, Tryz.ntmps111
  go_wp2_with fail
  refine HC.out.mono ?_
  rintro e w1 ⟨⟨r, rfl, hr⟩, hb⟩
  have hb1 := hb0.trans (hb.mono hb0.size)
  clear hb HC
  rcases hr with hneg | ⟨hr0, hr1, hr2, hr3⟩
  · go_wp2_with fail
    go_ret
    exact ⟨⟨-1, rfl, .inl (by omega)⟩, hb1⟩
  · have hnn : ¬ r < 0 := by omega
    have HS : Hid (szC l) := ⟨hr2, hr3⟩
    clear hr2 hr3
    go_wp2_with fail
    go_ret
    exact ⟨⟨r, rfl, .inr ⟨hr0, hr1, HS.out⟩⟩, hb1⟩

set_option maxRecDepth 4000 in
set_option maxHeartbeats 1000000 in
theorem szClauseS_any (a : Option Addr) (cap : Nat) (f : List (List Trm)) (c0 : Int) (w : World) (hin : InCl w a f) (hl : f.length ≤ maxLen) (hs : ∀ l ∈ f, maxC l) (h0 : 0 ≤ c0) (h1 : c0 ≤ 1048576) :
    Calls Tryz.prog 93 #[.slice a f.length cap, .int .i64 c0] w fun e w' => (∃ r : Int, e = .returned (.int .i64 r) ∧ (r < 0 ∨ (0 ≤ r ∧ r ≤ c0 ∧ f.length ≤ 1048576 ∧ ∀ l ∈ f, szC l))) ∧ Below w.heap.size w w' := by
  unfold maxLen at hl
  have HI : Hid (InCl _ _ _) := hin
  have HS : Hid _ := hs
  clear hin hs
  by_cases hbig : c0 < (f.length : Int)
  · have hneg : c0 - (f.length : Int) < 0 := by omega
    go_enter Tryz.func93, Tryz.ntmps93
    go_wp2_with fail
    go_ret
    exact ⟨⟨-1, rfl, .inl (by omega)⟩, Below.refl _ _⟩
  · have hneg : ¬ c0 - (f.length : Int) < 0 := by omega
    go_enter Tryz.func93, Tryz.ntmps93
    go_wp2_with fail
    go_loopw [1, 5] (fun u i wr => ∃ k : Nat, k ≤ f.length ∧ i = .int .i64 k ∧ ∃ c : Int, u = .int .i64 c ∧ 0 ≤ c ∧ c ≤ c0 ∧ (∀ v ∈ f.take k, szC v) ∧ Below w.heap.size w wr) (fun _ i _ => f.length - (intOf i).toNat)
    case atStart => exact ⟨0, Nat.zero_le _, rfl, _, rfl, by omega, by omega, (fun v hv => by simp at hv), Below.refl _ _⟩
    case round =>
      obtain ⟨k, hk, rfl, c, rfl, hc0, hc1, hall, hbel⟩ := hrel
      have HA : Hid _ := hall
      clear hall
      by_cases hlt : k < f.length
      · rcases HI.out.step hbel with h0' | ⟨b, off, rfl, hbl, hcell⟩
        · omega
        · have hlt2 : (k : Int) < (f.length : Int) := by omega
          obtain ⟨p, pc, x0, hT⟩ := hcell k hlt
          have HC : Hid (Calls _ _ _ _ _) := szClause_any p pc f[k] c wr hT (HS.out f[k] (List.getElem_mem _)) hc0 (by omega)
          clear hcell hT
          go_wp2_with fail
          refine HC.out.mono ?_
          rintro e w1 ⟨⟨r, rfl, hr⟩, hb⟩
          have hb1 := hbel.trans (hb.mono hbel.size)
          clear hb HC
          rcases hr with hneg2 | ⟨hr0, hr1, hr2⟩
          · go_wp2_with fail
            go_ret
            exact ⟨⟨-1, rfl, .inl (by omega)⟩, hb1⟩
          · have hnn : ¬ r < 0 := by omega
            have HSZ : Hid (szC f[k]) := hr2
            clear hr2
            go_wp2_with fail
            go_roundw
            case rel => exact ⟨k + 1, by omega, by go_num, r, rfl, by omega, by omega, take_allC _ f k hlt HA.out HSZ.out, hb1⟩
            case measure => simp [intOf]; omega
      · have hlt2 : ¬ (k : Int) < (f.length : Int) := by omega
        go_wp2_with fail
        go_ret
        exact ⟨⟨c, rfl, .inr ⟨hc0, hc1, by omega, by have := HA.out; rw [List.take_of_length_le (by omega)] at this; exact this⟩⟩, hbel⟩
set_option maxRecDepth 4000 in
set_option maxHeartbeats 1000000 in
theorem szFilter_any (a : Option Addr) (cap : Nat) (f : List (List Trm)) (c0 : Int) (w : World) (hin : InCl w a f) (hl : f.length ≤ maxLen) (hs : ∀ l ∈ f, maxC l) (h0 : 0 ≤ c0) (h1 : c0 ≤ 1048576) :
    Calls Tryz.prog 66 #[.agg #[.slice a f.length cap], .int .i64 c0] w fun e w' => (∃ r : Int, e = .returned (.int .i64 r) ∧ (r < 0 ∨ (0 ≤ r ∧ r ≤ c0 ∧ f.length ≤ 1048576 ∧ ∀ l ∈ f, szC l))) ∧ Below w.heap.size w w' := by
  have hb0 : Below w.heap.size w (w.alloc (.cells #[.slice a f.length cap] 62)) := (Below.refl _ _).alloc (Nat.le_refl _) _
  have HC : Hid (Calls _ _ _ _ _) := szClauseS_any a cap f c0 (w.alloc (.cells #[.slice a f.length cap] 62)) (hin.step hb0) hl hs h0 h1
  clear hin hs
  go_enter Tryz.func66, Tryz.ntmps66
  go_wp2_with fail
  refine HC.out.mono ?_
  rintro e w1 ⟨⟨r, rfl, hr⟩, hb⟩
  have hb1 := hb0.trans (hb.mono hb0.size)
  clear hb HC
  rcases hr with hneg | ⟨hr0, hr1, hr2, hr3⟩
  · go_wp2_with fail
    go_ret
    exact ⟨⟨-1, rfl, .inl (by omega)⟩, hb1⟩
  · have hnn : ¬ r < 0 := by omega
    have HS : Hid (∀ l ∈ f, szC l) := hr3
    clear hr3
    go_wp2_with fail
    go_ret
    exact ⟨⟨r, rfl, .inr ⟨hr0, hr1, hr2, HS.out⟩⟩, hb1⟩

theorem grown_setC {w : World} {g o : Nat} {v : Value} : w.grownBy (w.setCell ⟨g, o, none⟩ v) (some g) := by
  refine ⟨rfl, rfl, rfl, by simp [World.setCell], ?_⟩
  intro k hk hne
  have : g ≠ k := fun e => hne (by rw [e])
  simp [World.setCell, Array.getElem?_modify, this]
set_option maxRecDepth 4000 in
set_option maxHeartbeats 1000000 in
theorem toClause_any (a : Option Addr) (cap : Nat) (l : List Trm) (w : World) (hin : InT w a l) (hlen : l.length ≤ 1048576) :
    Calls Tryz.prog 117 #[.agg #[.slice a l.length cap]] w fun e w' => (∃ g, e = .returned (.agg #[.slice (some ⟨g, 0, none⟩) l.length l.length]) ∧ w.heap.size ≤ g ∧ ReadT w' g l) ∧ Below w.heap.size w w' := by
  have hb0 : Below w.heap.size w (((w.alloc (.cells #[.slice a l.length cap] 148)).alloc (.cells #[.slice none 0 0] 109)).alloc (.cells #[.slice none 0 0] 109)) := (((Below.refl _ _).alloc (Nat.le_refl _) _).alloc (by simp) _).alloc (by simp; omega) _
  have HC : Hid (Calls _ _ _ _ _) := toTermS_any a cap l _ (hin.step hb0) hlen
  clear hin
  go_enter Tryz.func117, Tryz.ntmps117
  go_wp2_with fail
  refine HC.out.mono ?_
  rintro e w1 ⟨⟨g, rfl, hg, hR⟩, hb⟩
  obtain ⟨hc, hf⟩ := bcell hb
  have hz : w.heap.size + 2 < w1.heap.size := by have := hb.size; simp at this; omega
  have hbw : Below w.heap.size w w1 := hb0.trans (hb.mono (by simp; omega))
  simp at hg
  have HR : Hid (ReadT _ _ _) := hR
  clear hb HC hR hb0
  go_wp2_with fail
  refine bodyPost_ret (v := .agg #[.slice (some ⟨g, 0, none⟩) l.length l.length]) (by simp [results, Tryz.results117, go_sem, *]) rfl ⟨⟨g, rfl, by omega, ?_⟩, ?_⟩
  · exact (HR.out.grown grown_setC (fun e => by injection e; omega)).grown grown_setC (fun e => by injection e; omega)
  · (repeat (first | (with_reducible exact Below.refl _ _) | (with_reducible assumption) | (with_reducible apply below_drewN) | (with_reducible apply Below.drew) | ((with_reducible refine Below.setCell ?_ ?_ _); rotate_left; focus (first | (simp; done) | (simp; omega) | omega)) | ((with_reducible refine Below.alloc ?_ ?_ _); rotate_left; focus (first | (simp; done) | (simp; omega) | omega))))

theorem own_thereC {w : World} {base g c n : Nat} {e : TypeId} {xs : List Value} (h : w.ownsRow base e 1 (.slice (some ⟨g, 0, none⟩) n c) n xs) (j : Nat) (hj : j < n) : ∃ u, w.cell? ⟨g, j, none⟩ = some u := by
  have := World.ownsRow.cellAt h j (by omega)
  rw [this]
  exact ⟨_, List.getElem?_eq_getElem (by have := h.1; omega)⟩
/-- A row of clauses made anew, all of it from block number base on. -/
structure MadeC (w : World) (base g : Nat) (f : List (List Trm)) : Prop where
  ge : base ≤ g
  lt : g < w.heap.size
  cells : ∀ i (h : i < f.length), ∃ gi cap, w.cell? ⟨g, i, none⟩ = some (.slice (some ⟨gi, 0, none⟩) f[i].length cap) ∧ base ≤ gi ∧ ReadT w gi f[i]
theorem MadeC.read {w : World} {base g : Nat} {f : List (List Trm)} (h : MadeC w base g f) : ReadC w g f :=
  ⟨h.lt, fun i hi => by
    obtain ⟨gi, cap, h1, _, h3⟩ := h.cells i hi
    exact ⟨_, cap, h1, .inr ⟨gi, rfl, h3⟩⟩⟩
theorem MadeC.set {w : World} {base g b o : Nat} {v : Value} {f : List (List Trm)} (h : MadeC w base g f) (hb : b < base) : MadeC (w.setCell ⟨b, o, none⟩ v) base g f :=
  ⟨h.ge, by simpa [World.setCell] using h.lt, fun i hi => by
    obtain ⟨gi, cap, h1, h2, h3⟩ := h.cells i hi
    have hg : w.grownBy (w.setCell ⟨b, o, none⟩ v) (some b) := grown_setC
    refine ⟨gi, cap, ?_, h2, h3.grown hg (fun e => by injection e; omega)⟩
    have := h.ge
    exact (World.cell?_of_block (hg.block g h.lt (fun e => by injection e; omega))).trans h1⟩
/-- Which clauses stand already at their places. -/
def partC (w : World) (base : Nat) (xs : List Value) (f : List (List Trm)) (k : Nat) : Prop := ∀ i (h : i < f.length), i < k → ∃ g cap, xs[i]? = some (.slice (some ⟨g, 0, none⟩) f[i].length cap) ∧ base < g ∧ ReadT w g f[i]
theorem made_zeroC (n : Nat) : (madeCells (Value.agg #[.slice none 0 0]).cells (n * 1)).toList.length = n := by simp [madeCells]
theorem flatC_one {w : World} {base : Nat} {xs : List Value} {n : Nat} {v : Value} (h : w.ownsRow base 109 1 v n xs) : xs.length = n := by have := h.1; omega
set_option maxRecDepth 4000 in
set_option maxHeartbeats 1000000 in
theorem toClauseS_any (a : Option Addr) (cap : Nat) (f : List (List Trm)) (w : World) (hin : InCl w a f) (hlen : f.length ≤ 1048576) (hs : ∀ l ∈ f, l.length ≤ 1048576) :
    Calls Tryz.prog 99 #[.slice a f.length cap] w fun e w' => (∃ g, e = .returned (.slice (some ⟨g, 0, none⟩) f.length f.length) ∧ MadeC w' w.heap.size g f) ∧ Below w.heap.size w w' := by
  obtain ⟨i0, hi, hz0, hz1, hz2⟩ := info_parts infoC
  have HI : Hid (InCl _ _ _) := hin
  have HS : Hid _ := hs
  clear hin hs
  go_enter Tryz.func99, Tryz.ntmps99
  go_wp2_with (refine wpList_make_full _ rfl (.tmp 6) (.tmp 6) 76 rfl w.heap.size 109 i0 (.agg #[.slice none 0 0]) 1 Tryz.underlying76 hi hz0 hz1 .i64 .i64 _ _ f.length rfl rfl rfl rfl (by rw [hz2]; omega) (by unfold maxLen; omega) (Nat.le_refl _) ?_; intro w1 hown1 hgrow1)
  have hb1 : Below w.heap.size w w1 := Below.grown (Below.refl _ _) hgrow1 (Nat.le_refl _) (fun k h => by cases h)
  clear hgrow1
  go_loopw [4] (fun i wr => ∃ (k : Nat) (xs : List Value), k ≤ f.length ∧ i = .int .i64 k ∧ wr.ownsRow w.heap.size 109 1 (.slice (some ⟨w.heap.size, 0, none⟩) f.length f.length) f.length xs ∧ partC wr w.heap.size xs f k ∧ Below w.heap.size w wr) (fun i _ => f.length - (intOf i).toNat)
  case atStart => exact ⟨0, _, Nat.zero_le _, rfl, hown1, fun i h hi => absurd hi (by omega), hb1⟩
  case round =>
    obtain ⟨k, xs, hk, rfl, hown, hpart, hbel⟩ := hrel
    clear hown1 hb1
    by_cases hlt : k < f.length
    · rcases HI.out.step hbel with h0 | ⟨b, off, rfl, hbl, hc⟩
      · omega
      · have hlt2 : (k : Int) < (f.length : Int) := by omega
        obtain ⟨p, pc, x0, hT⟩ := hc k hlt
        have HC : Hid (Calls _ _ _ _ _) := toClause_any p pc f[k] wr hT (HS.out f[k] (List.getElem_mem _))
        have hz := hbel.size
        have HO : Hid (World.ownsRow _ _ _ _ _ _ _) := hown
        have HP : Hid (partC _ _ _ _ _) := hpart
        have HB : Hid _ := hbel
        have hgl : w.heap.size < wr.heap.size := (hown.lt _ rfl).2
        clear hc hown hbel hT hpart
        go_wp2_with fail
        refine HC.out.mono ?_
        rintro e w2 ⟨⟨g2, rfl, hg2, hR2⟩, hb2⟩
        have hown2 := owns_below HO.out hb2
        have hxl := flatC_one hown2
        obtain ⟨z0, y0⟩ := own_thereC hown2 k (by omega)
        have f0 := World.ownsRow.frozenAt hown2 k
        have hst := (World.ownsRow.stored hown2 k (.slice (some ⟨g2, 0, none⟩) f[k].length f[k].length)).1
        have hpart2 : partC (w2.setCell ⟨w.heap.size, k, none⟩ (.slice (some ⟨g2, 0, none⟩) f[k].length f[k].length)) w.heap.size (xs.set k (.slice (some ⟨g2, 0, none⟩) f[k].length f[k].length)) f (k + 1) := by
          intro i h hi
          by_cases hik : i = k
          · subst hik
            exact ⟨g2, f[i].length, by rw [List.getElem?_set_self (by omega)], by omega, hR2.grown grown_setC (fun e => by injection e; omega)⟩
          · obtain ⟨g, c, e1, e2, e3⟩ := HP.out i h (by omega)
            exact ⟨g, c, by rw [List.getElem?_set_ne (fun e => hik e.symm)]; exact e1, e2, (e3.next hb2).grown grown_setC (fun e => by injection e; omega)⟩
        have HST : Hid (World.ownsRow _ _ _ _ _ _ _) := hst
        have HPA : Hid (partC _ _ _ _ _) := hpart2
        have HB2 : Hid _ := HB.out.trans (hb2.mono HB.out.size)
        have hz2 := hb2.size
        clear hst hown2 hb2 hpart2 hR2 HC
        go_wp2_with fail
        go_roundw
        case rel => exact ⟨k + 1, _, by omega, by go_num, HST.out, HPA.out, HB2.out.setCell (Nat.le_refl _) _⟩
        case measure => simp [intOf]; omega
    · have hlt2 : ¬ (k : Int) < (f.length : Int) := by omega
      have hR : MadeC wr w.heap.size w.heap.size f := ⟨Nat.le_refl _, (hown.lt _ rfl).2, fun i hi => by
        obtain ⟨g, c, e1, e2, e3⟩ := hpart i hi (by omega)
        exact ⟨g, c, owns_cell hown i _ e1, by omega, e3⟩⟩
      have HR : Hid (MadeC _ _ _ _) := hR
      clear hR hpart hown
      go_wp2_with fail
      go_ret
      exact ⟨⟨w.heap.size, rfl, HR.out⟩, hbel⟩

set_option maxRecDepth 4000 in
set_option maxHeartbeats 1000000 in
theorem toFilter_any (a : Option Addr) (cap : Nat) (f : List (List Trm)) (w : World) (hin : InCl w a f) (hlen : f.length ≤ 1048576) (hs : ∀ l ∈ f, l.length ≤ 1048576) :
    Calls Tryz.prog 72 #[.agg #[.slice a f.length cap]] w fun e w' => (∃ g, e = .returned (.agg #[.slice (some ⟨g, 0, none⟩) f.length f.length]) ∧ ReadC w' g f) ∧ Below w.heap.size w w' := by
  have hb0 : Below w.heap.size w (((w.alloc (.cells #[.slice a f.length cap] 62)).alloc (.cells #[.slice none 0 0] 78)).alloc (.cells #[.slice none 0 0] 78)) := (((Below.refl _ _).alloc (Nat.le_refl _) _).alloc (by simp) _).alloc (by simp; omega) _
  have HC : Hid (Calls _ _ _ _ _) := toClauseS_any a cap f _ (hin.step hb0) hlen hs
  clear hin hs
  go_enter Tryz.func72, Tryz.ntmps72
  go_wp2_with fail
  refine HC.out.mono ?_
  rintro e w1 ⟨⟨g, rfl, hR⟩, hb⟩
  obtain ⟨hc, hf⟩ := bcell hb
  have hz : w.heap.size + 2 < w1.heap.size := by have := hb.size; simp at this; omega
  have hbw : Below w.heap.size w w1 := hb0.trans (hb.mono (by simp; omega))
  simp at hR
  have HR : Hid (MadeC _ _ _ _) := hR
  clear hb HC hR hb0
  go_wp2_with fail
  refine bodyPost_ret (v := .agg #[.slice (some ⟨g, 0, none⟩) f.length f.length]) (by simp [results, Tryz.results72, go_sem, *]) rfl ⟨⟨g, rfl, ?_⟩, ?_⟩
  · exact ((HR.out.set (by omega)).set (by omega)).read
  · (repeat (first | (with_reducible exact Below.refl _ _) | (with_reducible assumption) | (with_reducible apply below_drewN) | (with_reducible apply Below.drew) | ((with_reducible refine Below.setCell ?_ ?_ _); rotate_left; focus (first | (simp; done) | (simp; omega) | omega)) | ((with_reducible refine Below.alloc ?_ ?_ _); rotate_left; focus (first | (simp; done) | (simp; omega) | omega))))

end Go.Proofs.YtcggkeleaepebaaGreatDoor

/- What the program's asking whether a filter is right answers, for every filter. -/
namespace Go.Proofs.YtcggkeleaepebaaGreatDoor
open Go.RowKit
set_option linter.unusedVariables false

def okT (t : Trm) : Bool := termB t.op t.p t.c
/-- Is a clause right. -/
def clauseB (l : List Trm) : Bool := decide (l.length ≤ 4) && l.all okT
/-- Is a filter right. -/
def filtB (f : List (List Trm)) : Bool := decide (1 ≤ f.length ∧ f.length ≤ 3) && f.all clauseB

set_option maxRecDepth 4000 in
set_option maxHeartbeats 1000000 in
theorem isWrongTerm_any (t : Trm) (w : World) (hs : szT t) :
    Calls Tryz.prog 156 #[.agg #[.int .i64 t.op, .string t.p, .int .i64 t.c.k, .int .i64 t.c.n, .string t.c.t]] w fun e w' => e = .returned (.bool (!(okT t))) ∧ Below w.heap.size w w' := by
  have X0 := Box5.start w (.int .i64 t.op) (.string t.p) (.int .i64 t.c.k) (.int .i64 t.c.n) (.string t.c.t) 144
  have HC : Hid (∀ W : World, Calls _ _ _ W _) := fun W => termOK_any t.op t.p t.c.k t.c.n t.c.t W hs.1 hs.2
  have ho : termB t.op t.p ⟨t.c.k, t.c.n, t.c.t⟩ = okT t := rfl
  rw [ho] at HC
  clear hs ho
  go_enter Tryz.func156, Tryz.ntmps156
  go_wp2_with fail
  refine (HC.out _).mono ?_
  rintro e w1 ⟨rfl, hb⟩
  have hbw := (X0.step hb).bel
  clear hb
  go_wp2_with fail
  go_ret
  exact ⟨ret_bool (by simp), hbw⟩

set_option maxRecDepth 4000 in
set_option maxHeartbeats 1000000 in
theorem idxWrongT_any (q : Option Addr) (qc : Nat) (l : List Trm) (w : World) (hr : RowT w q l) (hl : l.length ≤ 1048576) (hs : ∀ v ∈ l, szT v) :
    Calls Tryz.prog 167 #[.slice q l.length qc, .func (.func 156) #[] #[]] w fun e w' => (∃ i : Int, e = .returned (.int .i64 i) ∧ decide (0 ≤ i) = !(l.all okT)) ∧ Below w.heap.size w w' := by
  have HR : Hid (RowT _ _ _) := hr
  have HS : Hid _ := hs
  clear hr hs
  go_enter Tryz.func167, Tryz.ntmps167
  go_wp2_with fail
  go_loopw [8] (fun i wr => ∃ k : Nat, k ≤ l.length ∧ i = .int .i64 k ∧ (∀ u ∈ l.take k, okT u = true) ∧ Below w.heap.size w wr) (fun i _ => l.length - (intOf i).toNat)
  case atStart => exact ⟨0, Nat.zero_le _, rfl, fun u hu => by simp at hu, Below.refl _ _⟩
  case round =>
    obtain ⟨k, hk, rfl, hall, hbel⟩ := hrel
    have HA : Hid _ := hall
    clear hall
    by_cases hlt : k < l.length
    · rcases HR.out.next hbel with h0 | ⟨g, rfl, R⟩
      · subst h0; simp at hlt
      obtain ⟨x0, x1, x2, x3, x4⟩ := R.cells k hlt
      have hlt2 : (k : Int) < (l.length : Int) := by omega
      have HK0 : ∀ W : World, Below wr.heap.size wr W → Calls Tryz.prog 156 #[.agg #[.int .i64 l[k].op, .string l[k].p, .int .i64 l[k].c.k, .int .i64 l[k].c.n, .string l[k].c.t]] W fun e w' => e = .returned (.bool (!(okT l[k]))) ∧ Below W.heap.size W w' := fun W _ => isWrongTerm_any l[k] W (HS.out l[k] (List.getElem_mem _))
      cases hP : okT l[k]
      · rw [hP] at HK0
        have HK : Hid _ := HK0
        have hal : l.all okT = false := by
          rw [Bool.eq_false_iff]; intro hh
          have := List.all_eq_true.mp hh l[k] (List.getElem_mem _)
          rw [hP] at this; cases this
        have HL : Hid _ := hal
        clear R hP HK0 hal
        go_wp2_with fail
        refine (HK.out _ (Below.refl _ _)).mono ?_
        rintro e w1 ⟨rfl, hb⟩
        have hb1 := hbel.trans (hb.mono hbel.size)
        clear hb
        go_wp2_with fail
        go_ret
        exact ⟨⟨k, rfl, by rw [HL.out]; exact decide_eq_true (by omega)⟩, hb1⟩
      · rw [hP] at HK0
        have HK : Hid _ := HK0
        have HPK : Hid _ := hP
        clear R hP HK0
        go_wp2_with fail
        refine (HK.out _ (Below.refl _ _)).mono ?_
        rintro e w1 ⟨rfl, hb⟩
        have hb1 := hbel.trans (hb.mono hbel.size)
        clear hb
        go_wp2_with fail
        go_roundw
        case rel =>
          refine ⟨k + 1, by omega, by go_num, ?_, hb1⟩
          intro u hu
          rw [List.take_succ_eq_append_getElem hlt] at hu
          rcases List.mem_append.mp hu with h | h
          · exact HA.out u h
          · simp at h; subst h; exact HPK.out
        case measure => simp [intOf]; omega
    · have hlt2 : ¬ (k : Int) < (l.length : Int) := by omega
      have hal : l.all okT = true := List.all_eq_true.mpr (fun u hu => HA.out u (by rw [List.take_of_length_le (by omega)]; exact hu))
      have HL : Hid _ := hal
      clear hal
      go_wp2_with fail
      go_ret
      exact ⟨⟨-1, rfl, by rw [HL.out]; rfl⟩, hbel⟩
set_option maxRecDepth 4000 in
set_option maxHeartbeats 1000000 in
theorem anyWrongT_any (q : Option Addr) (qc : Nat) (l : List Trm) (w : World) (hr : RowT w q l) (hl : l.length ≤ 1048576) (hs : ∀ v ∈ l, szT v) :
    Calls Tryz.prog 155 #[.slice q l.length qc, .func (.func 156) #[] #[]] w fun e w' => e = .returned (.bool (!(l.all okT))) ∧ Below w.heap.size w w' := by
  have HI : Hid (Calls _ _ _ _ _) := idxWrongT_any q qc l w hr hl hs
  clear hr hs
  go_enter Tryz.func155, Tryz.ntmps155
  go_wp2_with fail
  refine HI.out.mono ?_
  rintro e w1 ⟨⟨i, rfl, hi⟩, hb⟩
  have HJ : Hid _ := hi
  clear hi HI
  go_wp2_with fail
  go_ret
  exact ⟨ret_bool HJ.out, hb⟩

set_option maxRecDepth 4000 in
set_option maxHeartbeats 1000000 in
theorem isWrongClause_any (p : Option Addr) (cap : Nat) (l : List Trm) (w : World) (hr : RowT w p l) (hs : szC l) :
    Calls Tryz.prog 136 #[.agg #[.slice p l.length cap]] w fun e w' => e = .returned (.bool (!(clauseB l))) ∧ Below w.heap.size w w' := by
  have hb0 : Below w.heap.size w (w.alloc (.cells #[.slice p l.length cap] 109)) := (Below.refl _ _).alloc (Nat.le_refl _) _
  have hlen := hs.1
  unfold clauseB
  by_cases h4 : l.length ≤ 4
  · have h4' : ¬ (4 : Int) < (l.length : Int) := by omega
    have HC : Hid (Calls _ _ _ _ _) := anyWrongT_any p cap l (w.alloc (.cells #[.slice p l.length cap] 109)) (hr.next hb0) hs.1 hs.2
    rw [decide_eq_true h4, Bool.true_and]
    obtain ⟨R, hR⟩ : ∃ R, R = l.all okT := ⟨_, rfl⟩
    rw [← hR] at HC ⊢
    clear hr hs hR
    go_enter Tryz.func136, Tryz.ntmps136
    go_wp2_with fail
    refine HC.out.mono ?_
    rintro e w1 ⟨rfl, hb⟩
    have hbw := hb0.trans (hb.mono hb0.size)
    clear hb
    go_wp2_with fail
    go_ret
    exact ⟨rfl, hbw⟩
  · have h4' : (4 : Int) < (l.length : Int) := by omega
    rw [decide_eq_false h4, Bool.false_and]
    clear hr hs
    go_enter Tryz.func136, Tryz.ntmps136
    go_wp2_with fail
    go_ret
    exact ⟨rfl, hb0⟩

set_option maxRecDepth 4000 in
set_option maxHeartbeats 1000000 in
theorem idxWrongC_any (q : Option Addr) (qc : Nat) (l : List (List Trm)) (w : World) (hr : RowC w q l) (hl : l.length ≤ 1048576) (hs : ∀ v ∈ l, szC v) :
    Calls Tryz.prog 154 #[.slice q l.length qc, .func (.func 136) #[] #[]] w fun e w' => (∃ i : Int, e = .returned (.int .i64 i) ∧ decide (0 ≤ i) = !(l.all clauseB)) ∧ Below w.heap.size w w' := by
  have HR : Hid (RowC _ _ _) := hr
  have HS : Hid _ := hs
  clear hr hs
  go_enter Tryz.func154, Tryz.ntmps154
  go_wp2_with fail
  go_loopw [8] (fun i wr => ∃ k : Nat, k ≤ l.length ∧ i = .int .i64 k ∧ (∀ u ∈ l.take k, clauseB u = true) ∧ Below w.heap.size w wr) (fun i _ => l.length - (intOf i).toNat)
  case atStart => exact ⟨0, Nat.zero_le _, rfl, fun u hu => by simp at hu, Below.refl _ _⟩
  case round =>
    obtain ⟨k, hk, rfl, hall, hbel⟩ := hrel
    have HA : Hid _ := hall
    clear hall
    by_cases hlt : k < l.length
    · rcases HR.out.next hbel with h0 | ⟨g, rfl, R⟩
      · subst h0; simp at hlt
      obtain ⟨pk, ck, x0, xr⟩ := R.cells k hlt
      have hlt2 : (k : Int) < (l.length : Int) := by omega
      have HK0 : ∀ W : World, Below wr.heap.size wr W → Calls Tryz.prog 136 #[.agg #[.slice pk l[k].length ck]] W fun e w' => e = .returned (.bool (!(clauseB l[k]))) ∧ Below W.heap.size W w' := fun W hW => isWrongClause_any pk ck l[k] W (xr.next hW) (HS.out l[k] (List.getElem_mem _))
      cases hP : clauseB l[k]
      · rw [hP] at HK0
        have HK : Hid _ := HK0
        have hal : l.all clauseB = false := by
          rw [Bool.eq_false_iff]; intro hh
          have := List.all_eq_true.mp hh l[k] (List.getElem_mem _)
          rw [hP] at this; cases this
        have HL : Hid _ := hal
        clear R hP HK0 hal
        go_wp2_with fail
        refine (HK.out _ (Below.refl _ _)).mono ?_
        rintro e w1 ⟨rfl, hb⟩
        have hb1 := hbel.trans (hb.mono hbel.size)
        clear hb
        go_wp2_with fail
        go_ret
        exact ⟨⟨k, rfl, by rw [HL.out]; exact decide_eq_true (by omega)⟩, hb1⟩
      · rw [hP] at HK0
        have HK : Hid _ := HK0
        have HPK : Hid _ := hP
        clear R hP HK0
        go_wp2_with fail
        refine (HK.out _ (Below.refl _ _)).mono ?_
        rintro e w1 ⟨rfl, hb⟩
        have hb1 := hbel.trans (hb.mono hbel.size)
        clear hb
        go_wp2_with fail
        go_roundw
        case rel =>
          refine ⟨k + 1, by omega, by go_num, ?_, hb1⟩
          intro u hu
          rw [List.take_succ_eq_append_getElem hlt] at hu
          rcases List.mem_append.mp hu with h | h
          · exact HA.out u h
          · simp at h; subst h; exact HPK.out
        case measure => simp [intOf]; omega
    · have hlt2 : ¬ (k : Int) < (l.length : Int) := by omega
      have hal : l.all clauseB = true := List.all_eq_true.mpr (fun u hu => HA.out u (by rw [List.take_of_length_le (by omega)]; exact hu))
      have HL : Hid _ := hal
      clear hal
      go_wp2_with fail
      go_ret
      exact ⟨⟨-1, rfl, by rw [HL.out]; rfl⟩, hbel⟩
set_option maxRecDepth 4000 in
set_option maxHeartbeats 1000000 in
theorem anyWrongC_any (q : Option Addr) (qc : Nat) (l : List (List Trm)) (w : World) (hr : RowC w q l) (hl : l.length ≤ 1048576) (hs : ∀ v ∈ l, szC v) :
    Calls Tryz.prog 135 #[.slice q l.length qc, .func (.func 136) #[] #[]] w fun e w' => e = .returned (.bool (!(l.all clauseB))) ∧ Below w.heap.size w w' := by
  have HI : Hid (Calls _ _ _ _ _) := idxWrongC_any q qc l w hr hl hs
  clear hr hs
  go_enter Tryz.func135, Tryz.ntmps135
  go_wp2_with fail
  refine HI.out.mono ?_
  rintro e w1 ⟨⟨i, rfl, hi⟩, hb⟩
  have HJ : Hid _ := hi
  clear hi HI
  go_wp2_with fail
  go_ret
  exact ⟨ret_bool HJ.out, hb⟩

set_option maxRecDepth 4000 in
set_option maxHeartbeats 1000000 in
theorem filterOK_any (p : Option Addr) (cap : Nat) (f : List (List Trm)) (w : World) (hr : RowC w p f) (hl : f.length ≤ 1048576) (hs : ∀ l ∈ f, szC l) :
    Calls Tryz.prog 119 #[.agg #[.slice p f.length cap]] w fun e w' => e = .returned (.bool (filtB f)) ∧ Below w.heap.size w w' := by
  have hb0 : Below w.heap.size w (w.alloc (.cells #[.slice p f.length cap] 78)) := (Below.refl _ _).alloc (Nat.le_refl _) _
  unfold filtB
  by_cases h1 : 1 ≤ f.length
  · have h1' : (1 : Int) ≤ (f.length : Int) := by omega
    have d1 : decide ((1 : Int) ≤ (f.length : Int)) = true := decide_eq_true h1'
    by_cases h3 : f.length ≤ 3
    · have h3' : (f.length : Int) ≤ 3 := by omega
      have d3 : decide ((f.length : Int) ≤ 3) = true := decide_eq_true h3'
      have HC : Hid (Calls _ _ _ _ _) := anyWrongC_any p cap f (w.alloc (.cells #[.slice p f.length cap] 78)) (hr.next hb0) hl hs
      rw [decide_eq_true (And.intro h1 h3), Bool.true_and]
      obtain ⟨R, hR⟩ : ∃ R, R = f.all clauseB := ⟨_, rfl⟩
      rw [← hR] at HC ⊢
      clear hr hs hR
      go_enter Tryz.func119, Tryz.ntmps119
      go_wp2_with fail
      refine HC.out.mono ?_
      rintro e w1 ⟨rfl, hb⟩
      have hbw := hb0.trans (hb.mono hb0.size)
      clear hb
      go_wp2_with fail
      go_ret
      exact ⟨ret_bool (by simp), hbw⟩
    · have h3' : ¬ (f.length : Int) ≤ 3 := by omega
      have d3 : decide ((f.length : Int) ≤ 3) = false := decide_eq_false h3'
      rw [decide_eq_false (fun h => h3 h.2), Bool.false_and]
      clear hr hs
      go_enter Tryz.func119, Tryz.ntmps119
      go_wp2_with fail
      go_ret
      exact ⟨rfl, hb0⟩
  · have h1' : ¬ (1 : Int) ≤ (f.length : Int) := by omega
    have d1 : decide ((1 : Int) ≤ (f.length : Int)) = false := decide_eq_false h1'
    rw [decide_eq_false (fun h => h1 h.1), Bool.false_and]
    clear hr hs
    go_enter Tryz.func119, Tryz.ntmps119
    go_wp2_with fail
    go_ret
    exact ⟨rfl, hb0⟩

end Go.Proofs.YtcggkeleaepebaaGreatDoor

/- What the specification's asking whether a filter is right answers, for every filter. -/
namespace Go.Proofs.YtcggkeleaepebaaGreatDoor
open Go.RowKit
set_option linter.unusedVariables false

set_option maxRecDepth 8000 in
set_option maxHeartbeats 2000000 in
theorem specFilt_any (p : Option Addr) (cap : Nat) (f : List (List Trm)) (w : World) (hr : RowC w p f) (hl : f.length ≤ 1048576) (hs : ∀ l ∈ f, szC l) :
    Calls Tryz.prog 95 #[.agg #[.slice p f.length cap]] w fun e w' => e = .returned (.bool (filtB f)) ∧ Below w.heap.size w w' := by
  have hb0 : Below w.heap.size w (w.alloc (.cells #[.slice p f.length cap] 78)) := (Below.refl _ _).alloc (Nat.le_refl _) _
  have c0 : (w.alloc (.cells #[.slice p f.length cap] 78)).cell? ⟨w.heap.size, 0, none⟩ = some (.slice p f.length cap) := by simp [go_sem]
  have hl0 : w.heap.size < (w.alloc (.cells #[.slice p f.length cap] 78)).heap.size := by simp
  obtain ⟨R, hR⟩ : ∃ R, R = filtB f := ⟨_, rfl⟩
  rw [← hR]
  have HR : Hid _ := hR
  have HRC : Hid (RowC _ _ _) := hr.next hb0
  have HS : Hid _ := hs
  clear hr hs hR
  by_cases hin : 1 ≤ f.length ∧ f.length ≤ 3
  case neg =>
    have hd : decide ((1 : Int) ≤ (f.length : Int) ∧ (f.length : Int) ≤ 3) = false := decide_eq_false (by omega)
    have hRf : R = false := by rw [HR.out]; unfold filtB; rw [decide_eq_false hin, Bool.false_and]
    have HD : Hid _ := hd
    clear HR hd
    subst hRf
    go_enter Tryz.func95, Tryz.ntmps95
    go_wp2_with fail
    refine (l01In_any _ 1 3 _).mono ?_
    rintro e w1 ⟨rfl, rfl⟩
    rw [HD.out]
    go_wp2_with fail
    go_ret
    exact ⟨rfl, hb0⟩
  case pos =>
  have hd : decide ((1 : Int) ≤ (f.length : Int) ∧ (f.length : Int) ≤ 3) = true := decide_eq_true (by omega)
  have hRa : R = f.all clauseB := by rw [HR.out]; unfold filtB; rw [decide_eq_true hin, Bool.true_and]
  have HD : Hid _ := hd
  have HRA : Hid _ := hRa
  clear HR hd hRa
  go_enter Tryz.func95, Tryz.ntmps95
  go_wp2_with fail
  refine (l01In_any _ 1 3 _).mono ?_
  rintro e w1 ⟨rfl, rfl⟩
  rw [HD.out]
  go_wp2_with fail
  generalize w.alloc (.cells #[.slice p f.length cap] 78) = W0 at hb0 c0 hl0 HRC ⊢
  go_loopw [3] (fun i wr => ∃ k : Nat, k ≤ f.length ∧ i = .int .i64 k ∧ (∀ l ∈ f.take k, clauseB l = true) ∧ Below W0.heap.size W0 wr) (fun i _ => f.length - (intOf i).toNat)
  case atStart => exact ⟨0, Nat.zero_le _, rfl, (fun l hl => by simp at hl), Below.refl _ _⟩
  case round =>
    obtain ⟨k, hk, rfl, hall, hbel⟩ := hrel
    have HA : Hid _ := hall
    have hc := (hbel.cell hl0).trans c0
    have hlw : w.heap.size < wr.heap.size := Nat.lt_of_lt_of_le hl0 hbel.size
    have hbw := hb0.trans (hbel.mono hb0.size)
    clear hall
    by_cases hlt : k < f.length
    · rcases HRC.out.next hbel with h0 | ⟨g, rfl, RC⟩
      · subst h0; simp at hlt
      obtain ⟨pk, ck, x0, xr⟩ := RC.cells k hlt
      have hgl := RC.lt
      have hlt2 : (k : Int) < (f.length : Int) := by omega
      have hsk := HS.out f[k] (List.getElem_mem _)
      have HSK : Hid (szC _) := hsk
      have HXR : Hid (RowT _ _ _) := xr
      have hlen := hsk.1
      clear RC xr hsk
      obtain ⟨fk, hfk⟩ : ∃ fk, fk = f[k] := ⟨_, rfl⟩
      rw [← hfk] at x0 HSK HXR hlen
      have HFK : Hid _ := hfk
      clear hfk
      by_cases h4 : fk.length ≤ 4
      · have h4' : ¬ (4 : Int) < (fk.length : Int) := by omega
        go_wp2_with fail
        obtain ⟨wo, hwo⟩ : ∃ wo, wo = wr := ⟨_, rfl⟩
        subst hwo
        go_loopw [4] (fun j wr2 => ∃ q : Nat, q ≤ fk.length ∧ j = .int .i64 q ∧ (∀ t ∈ fk.take q, okT t = true) ∧ Below wo.heap.size wo wr2) (fun j _ => fk.length - (intOf j).toNat)
        case atStart => exact ⟨0, Nat.zero_le _, rfl, (fun t ht => by simp at ht), Below.refl _ _⟩
        case round =>
          obtain ⟨q, hq, rfl, hall2, hbel2⟩ := hrel
          have HA2 : Hid _ := hall2
          have hc2 := (hbel2.cell hlw).trans hc
          have hx2 := (hbel2.cell hgl).trans x0
          have hbw2 := hbw.trans (hbel2.mono hbw.size)
          have hbel3 := hbel.trans (hbel2.mono hbel.size)
          clear hall2
          by_cases hqt : q < fk.length
          · rcases HXR.out.next hbel2 with h0 | ⟨gt, rfl, RT⟩
            · subst h0; simp at hqt
            obtain ⟨y0, y1, y2, y3, y4⟩ := RT.cells q hqt
            have hqt2 : (q : Int) < (fk.length : Int) := by omega
            have hst := HSK.out.2 fk[q] (List.getElem_mem _)
            have HC0 : ∀ W : World, Calls Tryz.prog 113 #[.agg #[.int .i64 fk[q].op, .string fk[q].p, .int .i64 fk[q].c.k, .int .i64 fk[q].c.n, .string fk[q].c.t]] W fun e w' => e = .returned (.bool (okT fk[q])) ∧ Below W.heap.size W w' := fun W => specTerm_any fk[q].op fk[q].p fk[q].c.k fk[q].c.n fk[q].c.t W hst.1 hst.2
            clear RT hst
            cases hP : okT fk[q]
            · rw [hP] at HC0
              have HC : Hid _ := HC0
              have hRf : R = false := by
                rw [HRA.out, Bool.eq_false_iff]; intro hh
                have h1 := List.all_eq_true.mp hh f[k] (List.getElem_mem _)
                rw [← HFK.out] at h1
                unfold clauseB at h1
                rw [Bool.and_eq_true] at h1
                have := List.all_eq_true.mp h1.2 fk[q] (List.getElem_mem _)
                rw [hP] at this; cases this
              clear HC0 hP HRA
              subst hRf
              go_wp2_with fail
              refine (HC.out _).mono ?_
              rintro e w3 ⟨rfl, hb⟩
              have hb3 := hbw2.trans (hb.mono hbw2.size)
              clear hb
              go_wp2_with fail
              go_ret
              exact ⟨rfl, hb3⟩
            · rw [hP] at HC0
              have HC : Hid _ := HC0
              have HPK : Hid _ := hP
              clear HC0 hP
              go_wp2_with fail
              refine (HC.out _).mono ?_
              rintro e w3 ⟨rfl, hb⟩
              have hb3 := hbel2.trans (hb.mono hbel2.size)
              clear hb
              go_wp2_with fail
              go_roundw
              case rel => exact ⟨q + 1, by omega, by go_num, take_allT _ fk q hqt HA2.out HPK.out, hb3⟩
              case measure => simp [intOf]; omega
          · have hqt2 : ¬ (q : Int) < (fk.length : Int) := by omega
            have hcl : clauseB f[k] = true := by
              rw [← HFK.out]
              unfold clauseB
              rw [decide_eq_true h4, Bool.true_and]
              exact List.all_eq_true.mpr (fun u hu => HA2.out u (by rw [List.take_of_length_le (by omega)]; exact hu))
            have HCL : Hid _ := hcl
            clear hcl
            go_wp2_with fail
            go_roundw
            case rel => exact ⟨k + 1, by omega, by go_num, take_allC _ f k hlt HA.out HCL.out, hbel3⟩
            case measure => simp [intOf]; omega
      · have h4' : (4 : Int) < (fk.length : Int) := by omega
        have hRf : R = false := by
          rw [HRA.out, Bool.eq_false_iff]; intro hh
          have h1 := List.all_eq_true.mp hh f[k] (List.getElem_mem _)
          rw [← HFK.out] at h1
          unfold clauseB at h1
          rw [decide_eq_false h4] at h1; cases h1
        clear HRA
        subst hRf
        go_wp2_with fail
        go_ret
        exact ⟨rfl, hbw⟩
    · have hlt2 : ¬ (k : Int) < (f.length : Int) := by omega
      have hRt : R = true := by
        rw [HRA.out]
        exact List.all_eq_true.mpr (fun u hu => HA.out u (by rw [List.take_of_length_le (by omega)]; exact hu))
      clear HRA
      subst hRt
      go_wp2_with fail
      go_ret
      exact ⟨rfl, hbw⟩

end Go.Proofs.YtcggkeleaepebaaGreatDoor

/- Filters held against each other by the laws' own helpers: alike ones are told to be so. -/
namespace Go.Proofs.YtcggkeleaepebaaGreatDoor
open Go.RowKit
set_option linter.unusedVariables false

set_option maxRecDepth 4000 in
set_option maxHeartbeats 1000000 in
theorem eqClause_same (p1 p2 : Option Addr) (c1 c2 : Nat) (l : List Trm) (w : World) (h1 : RowT w p1 l) (h2 : RowT w p2 l) (hl : l.length ≤ 1048576) :
    Calls Tryz.prog 126 #[.agg #[.slice p1 l.length c1], .agg #[.slice p2 l.length c2]] w fun e w' => e = .returned (.bool true) ∧ Below w.heap.size w w' := by
  have hb0 : Below w.heap.size w ((w.alloc (.cells #[.slice p1 l.length c1] 109)).alloc (.cells #[.slice p2 l.length c2] 109)) := ((Below.refl _ _).alloc (Nat.le_refl _) _).alloc (by simp) _
  have HC : Hid (Calls _ _ _ _ _) := eqTermS_same p1 p2 c1 c2 l _ (h1.next hb0) (h2.next hb0) hl
  clear h1 h2
  go_enter Tryz.func126, Tryz.ntmps126
  go_wp2_with fail
  refine HC.out.mono ?_
  rintro e w1 ⟨rfl, hb⟩
  have hbw := hb0.trans (hb.mono hb0.size)
  clear hb HC
  go_wp2_with fail
  go_ret
  exact ⟨rfl, hbw⟩

set_option maxRecDepth 4000 in
set_option maxHeartbeats 1000000 in
theorem eqClauseS_same (p1 p2 : Option Addr) (c1 c2 : Nat) (f : List (List Trm)) (w : World) (h1 : RowC w p1 f) (h2 : RowC w p2 f) (hlen : f.length ≤ 1048576) (hs : ∀ l ∈ f, l.length ≤ 1048576) :
    Calls Tryz.prog 110 #[.slice p1 f.length c1, .slice p2 f.length c2] w fun e w' => e = .returned (.bool true) ∧ Below w.heap.size w w' := by
  have H1 : Hid (RowC _ _ _) := h1
  have H2 : Hid (RowC _ _ _) := h2
  have HS : Hid _ := hs
  clear h1 h2 hs
  go_enter Tryz.func110, Tryz.ntmps110
  go_wp2_with fail
  go_loopw [5] (fun i wr => ∃ k : Nat, k ≤ f.length ∧ i = .int .i64 k ∧ Below w.heap.size w wr) (fun i _ => f.length - (intOf i).toNat)
  case atStart => exact ⟨0, Nat.zero_le _, rfl, Below.refl _ _⟩
  case round =>
    obtain ⟨k, hk, rfl, hbel⟩ := hrel
    by_cases hlt : k < f.length
    · rcases H1.out.next hbel with h0 | ⟨g1, rfl, R1⟩
      · subst h0; simp at hlt
      rcases H2.out.next hbel with h0 | ⟨g2, rfl, R2⟩
      · subst h0; simp at hlt
      obtain ⟨pa, ca, x1, t1⟩ := R1.cells k hlt
      obtain ⟨pb, cb, x2, t2⟩ := R2.cells k hlt
      have l1 := R1.lt
      have l2 := R2.lt
      have hk1 : (k : Int) < (f.length : Int) := by omega
      have q0 : ∀ u : Under wr, u.x.cell? ⟨g1, k, none⟩ = some (.slice pa f[k].length ca) := fun u => (u.h.cell l1).trans x1
      have r0 : ∀ u : Under wr, u.x.cell? ⟨g2, k, none⟩ = some (.slice pb f[k].length cb) := fun u => (u.h.cell l2).trans x2
      have HC : Hid (∀ u : Under wr, Calls _ _ _ u.x _) := fun u => eqClause_same pa pb ca cb f[k] u.x (t1.next u.h) (t2.next u.h) (HS.out f[k] (List.getElem_mem _))
      have hnu : Nonempty (Under wr) := ⟨⟨wr, Below.refl _ _⟩⟩
      clear x1 x2 R1 R2 t1 t2
      go_wp2_with fail
      refine wp_region_under (by kernel_rfl) (by kernel_rfl) ?_
      repeat (go_big_quiet_step ((go_at_call 126; exact calls_under _ (HC.out _))))
      refine wpQuiet_nil ?_
      rintro _ ⟨u, rfl⟩
      go_wp2_with fail
      go_roundw
      case rel => exact ⟨k + 1, by omega, by go_num, hbel.trans (u.h.mono hbel.size)⟩
      case measure => simp [intOf]; omega
    · have hlt2 : ¬ (k : Int) < (f.length : Int) := by omega
      go_wp2_with fail
      go_ret
      exact ⟨rfl, hbel⟩

set_option maxRecDepth 4000 in
set_option maxHeartbeats 1000000 in
theorem eqFilter_same (p1 p2 : Option Addr) (c1 c2 : Nat) (f : List (List Trm)) (w : World) (h1 : RowC w p1 f) (h2 : RowC w p2 f) (hlen : f.length ≤ 1048576) (hs : ∀ l ∈ f, l.length ≤ 1048576) :
    Calls Tryz.prog 88 #[.agg #[.slice p1 f.length c1], .agg #[.slice p2 f.length c2]] w fun e w' => e = .returned (.bool true) ∧ Below w.heap.size w w' := by
  have hb0 : Below w.heap.size w ((w.alloc (.cells #[.slice p1 f.length c1] 78)).alloc (.cells #[.slice p2 f.length c2] 78)) := ((Below.refl _ _).alloc (Nat.le_refl _) _).alloc (by simp) _
  have HC : Hid (Calls _ _ _ _ _) := eqClauseS_same p1 p2 c1 c2 f _ (h1.next hb0) (h2.next hb0) hlen hs
  clear h1 h2
  go_enter Tryz.func88, Tryz.ntmps88
  go_wp2_with fail
  refine HC.out.mono ?_
  rintro e w1 ⟨rfl, hb⟩
  have hbw := hb0.trans (hb.mono hb0.size)
  clear hb HC
  go_wp2_with fail
  go_ret
  exact ⟨rfl, hbw⟩

end Go.Proofs.YtcggkeleaepebaaGreatDoor

/- A term that comes in, opened: its five cells. -/
namespace Go.Proofs.YtcggkeleaepebaaGreatDoor
open Go.RowKit Go.Joins Go.Deep Go.ChangeShapes Go.WideShapes Go.ChangeAt
set_option linter.unusedVariables false

theorem cellsTm : Tryz.prog.cellsOf 171 = 5 := by kernel_rfl
theorem cellsTmV : Tryz.prog.cellsOf 67 = 3 := by kernel_rfl
theorem cellsTmI : Tryz.prog.cellsOf 3 = 1 := by kernel_rfl
theorem cellsTmT : Tryz.prog.cellsOf 9 = 1 := by kernel_rfl
theorem arrayFive {α : Type} {cs : Array α} (h : cs.size = 5) : ∃ c0 c1 c2 c3 c4, cs = #[c0, c1, c2, c3, c4] := by
  obtain ⟨l⟩ := cs
  match l, h with
  | [c0, c1, c2, c3, c4], _ => exact ⟨c0, c1, c2, c3, c4, rfl⟩
set_option maxRecDepth 100000 in
theorem open_term_cells {H : Type} {enc : TypeId × Value → H} {w : World} {base : Nat} {spare : Nat → Bool} {held : Bool} {fuel : Nat} {c0 c1 c2 c3 c4 : Value} {x : DataW H × List MemPlace}
    (h : DataW.trod enc Tryz.prog w base spare held fuel 171 [c0, c1, c2, c3, c4] = some x) :
    ∃ (op : Int) (p : ByteArray) (k n : Int) (t : ByteArray), c0 = .int .i64 op ∧ c1 = .string p ∧ c2 = .int .i64 k ∧ c3 = .int .i64 n ∧ c4 = .string t ∧ p.size ≤ maxLen ∧ t.size ≤ maxLen := by
  obtain ⟨y0, y1, y2, m, _, _, t0, t1, t2⟩ := trod_struct3 Tryz.underlying171 h
  obtain ⟨z0, e0, _, _⟩ := DataW.trod_int Tryz.underlying3 t0
  obtain ⟨z1, e1, _, hp⟩ := DataW.trod_string Tryz.underlying9 t1
  obtain ⟨u0, u1, u2, m2, _, _, s0, s1, s2⟩ := trod_struct3 Tryz.underlying67 t2
  obtain ⟨z2, e2, _, _⟩ := DataW.trod_int Tryz.underlying3 s0
  obtain ⟨z3, e3, _, _⟩ := DataW.trod_int Tryz.underlying3 s1
  obtain ⟨z4, e4, _, ht⟩ := DataW.trod_string Tryz.underlying9 s2
  simp [cellsTmI, cellsTmT, cellsTmV] at e0 e1 e2 e3 e4
  exact ⟨z0, z1, z2, z3, z4, e0, e1, e2, e3, e4, hp, ht⟩
set_option maxRecDepth 100000 in
theorem open_term {H : Type} {enc : TypeId × Value → H} {w : World} {base b0 : Nat} {spare : Nat → Bool} {held : Bool} {r : Reach} {v : Value} {d : DataW H} {ps : List MemPlace}
    (hv : Value.okWide Tryz.prog w r b0 171 v) (h : DataW.Trod enc Tryz.prog w base spare held 171 v d ps) :
    ∃ (op : Int) (p : ByteArray) (k n : Int) (t : ByteArray), v = .agg #[.int .i64 op, .string p, .int .i64 k, .int .i64 n, .string t] ∧ p.size ≤ maxLen ∧ t.size ≤ maxLen := by
  obtain ⟨cs, rfl, hsz⟩ := okWide_struct Tryz.underlying171 hv
  obtain ⟨c0, c1, c2, c3, c4, rfl⟩ := arrayFive (hsz.trans cellsTm)
  obtain ⟨fuel, hf⟩ := h
  obtain ⟨op, p, k, n, t, rfl, rfl, rfl, rfl, rfl, hp, ht⟩ := open_term_cells (c0 := c0) (c1 := c1) (c2 := c2) (c3 := c3) (c4 := c4) (by simpa [Value.cells] using hf)
  exact ⟨op, p, k, n, t, rfl, hp, ht⟩

end Go.Proofs.YtcggkeleaepebaaGreatDoor

/- A filter that comes in, opened: its clauses, each with its terms, at their places. -/
namespace Go.Proofs.YtcggkeleaepebaaGreatDoor
open Go.RowKit Go.Joins Go.Deep Go.ChangeShapes Go.WideShapes Go.ChangeAt
set_option linter.unusedVariables false

instance : Inhabited Trm := ⟨zt⟩
theorem cellsFT : Tryz.prog.cellsOf 171 = 5 := by kernel_rfl
theorem cellsFC : Tryz.prog.cellsOf 148 = 1 := by kernel_rfl
theorem cellsFF : Tryz.prog.cellsOf 62 = 1 := by kernel_rfl
theorem cellsFS : Tryz.prog.cellsOf 146 = 1 := by kernel_rfl
theorem cellsFQ : Tryz.prog.cellsOf 60 = 1 := by kernel_rfl
theorem addF (b off i : Nat) : (⟨b, off, none⟩ : Addr).add i = ⟨b, off + i, none⟩ := by unfold Addr.add; split <;> simp_all
set_option maxRecDepth 100000 in
theorem open_terms {H : Type} {enc : TypeId × Value → H} {w : World} {base : Nat} {spare : Nat → Bool} {held : Bool} {fuel : Nat} {cs : List Value} {x : DataW H × List MemPlace}
    (h : DataW.trod enc Tryz.prog w base spare held fuel 146 cs = some x) :
    ∃ (a : Option Addr) (len cap : Nat) (l : List Trm), cs = [.slice a len cap] ∧ l.length = len ∧ maxC l ∧ InT w a l := by
  rcases open_slice Tryz.underlying146 h with ⟨rfl, _⟩ | ⟨a, len, cap, m, n, D, Pl, rfl, hb, hl, hm, hmm, _, hx⟩
  · exact ⟨none, 0, 0, [], rfl, rfl, ⟨Nat.zero_le _, (fun v hv => by simp at hv)⟩, .inl rfl⟩
  · have hlm : len ≤ m := by rw [hmm]; split <;> omega
    rw [cellsFT] at hx
    obtain ⟨f, hf⟩ := choose_lt (α := Trm) (n := len) (p := fun i t => w.cell? (a.add (i * 5)) = some (.int .i64 t.op) ∧ w.cell? ((a.add (i * 5)).add 1) = some (.string t.p) ∧ w.cell? ((a.add (i * 5)).add 2) = some (.int .i64 t.c.k) ∧ w.cell? ((a.add (i * 5)).add 3) = some (.int .i64 t.c.n) ∧ w.cell? ((a.add (i * 5)).add 4) = some (.string t.c.t) ∧ maxT t) (fun i hi => by
      obtain ⟨cs', h1, h2⟩ := hx i (by omega)
      obtain ⟨_, hlen, hc⟩ := World.cells?_some h1
      match cs', hlen with
      | [c0, c1, c2, c3, c4], _ =>
        obtain ⟨op, p, k, n, t, rfl, rfl, rfl, rfl, rfl, hp, ht⟩ := open_term_cells h2
        refine ⟨⟨op, p, ⟨k, n, t⟩⟩, ?_, ?_, ?_, ?_, ?_, hp, ht⟩
        · have := hc 0 (by omega); simpa [Addr.add] using this
        · exact hc 1 (by omega)
        · exact hc 2 (by omega)
        · exact hc 3 (by omega)
        · exact hc 4 (by omega))
    refine ⟨some a, len, cap, (List.range len).map f, rfl, by simp, ⟨by simp; omega, ?_⟩, ?_⟩
    · intro v hv
      obtain ⟨i, hi, rfl⟩ := List.mem_map.mp hv
      exact (hf i (by simpa using hi)).2.2.2.2.2
    · by_cases h0 : len = 0
      · exact .inl (by simp [h0])
      · obtain ⟨b, off, spot⟩ := a
        have hc0 := (hf 0 (by omega)).1
        have hspot : spot = none := by simpa [Addr.add] using World.cell?_spot hc0
        subst hspot
        have hlt : b < w.heap.size := by
          rcases Nat.lt_or_ge b w.heap.size with h | h
          · exact h
          · simp [World.cell?, Addr.add, Array.getElem?_eq_none h] at hc0
        refine .inr ⟨b, off, rfl, hlt, fun i hi => ?_⟩
        have hi2 : i < len := by simpa using hi
        have := hf i hi2
        simp only [addF] at this
        simp only [List.getElem_map, List.getElem_range]
        exact ⟨this.1, this.2.1, this.2.2.1, this.2.2.2.1, this.2.2.2.2.1⟩
set_option maxRecDepth 100000 in
theorem open_clauses {H : Type} {enc : TypeId × Value → H} {w : World} {base : Nat} {spare : Nat → Bool} {held : Bool} {fuel : Nat} {cs : List Value} {x : DataW H × List MemPlace}
    (h : DataW.trod enc Tryz.prog w base spare held fuel 60 cs = some x) :
    ∃ (a : Option Addr) (len cap : Nat) (f : List (List Trm)), cs = [.slice a len cap] ∧ f.length = len ∧ f.length ≤ maxLen ∧ (∀ l ∈ f, maxC l) ∧ InCl w a f := by
  rcases open_slice Tryz.underlying60 h with ⟨rfl, _⟩ | ⟨a, len, cap, m, n, D, Pl, rfl, hb, hl, hm, hmm, _, hx⟩
  · exact ⟨none, 0, 0, [], rfl, rfl, Nat.zero_le _, (fun v hv => by simp at hv), .inl rfl⟩
  · have hlm : len ≤ m := by rw [hmm]; split <;> omega
    rw [cellsFC] at hx
    obtain ⟨f, hf⟩ := choose_lt (α := List Trm) (n := len) (p := fun i l => ∃ p c, w.cell? (a.add (i * 1)) = some (.slice p l.length c) ∧ maxC l ∧ InT w p l) (fun i hi => by
      obtain ⟨cs', h1, h2⟩ := hx i (by omega)
      obtain ⟨_, hlen, hc⟩ := World.cells?_some h1
      match cs', hlen with
      | [c0], _ =>
        obtain ⟨y0, n', _, _, t0⟩ := trod_struct1 Tryz.underlying148 h2
        obtain ⟨p, ln, c, l, e, hln, hmx, hT⟩ := open_terms t0
        simp [cellsFS] at e
        subst e hln
        refine ⟨l, p, c, ?_, hmx, hT⟩
        have := hc 0 (by omega); simpa [Addr.add] using this)
    refine ⟨some a, len, cap, (List.range len).map f, rfl, by simp, by simp; omega, ?_, ?_⟩
    · intro v hv
      obtain ⟨i, hi, rfl⟩ := List.mem_map.mp hv
      obtain ⟨p, c, _, h2, _⟩ := hf i (by simpa using hi)
      exact h2
    · by_cases h0 : len = 0
      · exact .inl (by simp [h0])
      · obtain ⟨b, off, spot⟩ := a
        obtain ⟨p0, c0, hc0, _, _⟩ := hf 0 (by omega)
        have hspot : spot = none := by simpa [Addr.add] using World.cell?_spot hc0
        subst hspot
        have hlt : b < w.heap.size := by
          rcases Nat.lt_or_ge b w.heap.size with h | h
          · exact h
          · simp [World.cell?, Addr.add, Array.getElem?_eq_none h] at hc0
        refine .inr ⟨b, off, rfl, hlt, fun i hi => ?_⟩
        have hi2 : i < len := by simpa using hi
        obtain ⟨p, c, h1, h2, h3⟩ := hf i hi2
        simp only [addF, Nat.mul_one] at h1
        simp only [List.getElem_map, List.getElem_range]
        exact ⟨p, c, h1, h3⟩
set_option maxRecDepth 100000 in
theorem open_filter {H : Type} {enc : TypeId × Value → H} {w : World} {base b0 : Nat} {spare : Nat → Bool} {held : Bool} {r : Reach} {v : Value} {d : DataW H} {ps : List MemPlace}
    (hv : Value.okWide Tryz.prog w r b0 62 v) (h : DataW.Trod enc Tryz.prog w base spare held 62 v d ps) :
    ∃ (a : Option Addr) (cap : Nat) (f : List (List Trm)), v = .agg #[.slice a f.length cap] ∧ f.length ≤ maxLen ∧ (∀ l ∈ f, maxC l) ∧ InCl w a f := by
  obtain ⟨cs, rfl, hsz⟩ := okWide_struct Tryz.underlying62 hv
  obtain ⟨fuel, hf⟩ := h
  rw [cellsFF] at hsz
  obtain ⟨l⟩ := cs
  match l, hsz with
  | [c0], _ =>
    obtain ⟨y0, n', _, _, t0⟩ := trod_struct1 Tryz.underlying62 (show DataW.trod enc Tryz.prog w base spare held fuel 62 [c0] = some _ by simpa [Value.cells] using hf)
    obtain ⟨p, ln, c, f, e, hln, h1, h2, h3⟩ := open_clauses t0
    simp [cellsFQ] at e
    subst e hln
    exact ⟨p, c, f, rfl, h1, h2, h3⟩

end Go.Proofs.YtcggkeleaepebaaGreatDoor

/- Reads: whether one is right, what the laws' own helpers on one answer, and one that comes in, opened. -/
namespace Go.Proofs.YtcggkeleaepebaaGreatDoor.Rea
open Go.RowKit Go.ChangeShapes Go.WideShapes Go.ChangeAt Go.Joins
set_option linter.unusedVariables false

theorem madeR_next {w w' : World} {base g : Nat} {f : List (List Trm)} (h : MadeC w base g f) (hb : Below w.heap.size w w') : MadeC w' base g f :=
  ⟨h.ge, Nat.lt_of_lt_of_le h.lt hb.size, fun i hi => by
    obtain ⟨gi, cap, h1, h2, h3⟩ := h.cells i hi
    exact ⟨gi, cap, (hb.cell h.lt).trans h1, h2, h3.next hb⟩⟩
theorem madeR_mono {w : World} {base base' g : Nat} {f : List (List Trm)} (h : MadeC w base g f) (hb : base' ≤ base) : MadeC w base' g f :=
  ⟨Nat.le_trans hb h.ge, h.lt, fun i hi => by
    obtain ⟨gi, cap, h1, h2, h3⟩ := h.cells i hi
    exact ⟨gi, cap, h1, Nat.le_trans hb h2, h3⟩⟩
/-- A box of two cells. -/
structure BoxR (w W : World) (a b : Value) : Prop where
  bel : Below w.heap.size w W
  lt : w.heap.size < W.heap.size
  c0 : W.cell? ⟨w.heap.size, 0, none⟩ = some a
  c1 : W.cell? ⟨w.heap.size, 1, none⟩ = some b
theorem BoxR.start (w : World) (a b : Value) (T : TypeId) : BoxR w (w.alloc (.cells #[a, b] T)) a b :=
  ⟨(Below.refl _ _).alloc (Nat.le_refl _) _, by simp, by simp [go_sem], by simp [go_sem]⟩
theorem BoxR.step {w W W' : World} {a b : Value} (h : BoxR w W a b) (hb : Below W.heap.size W W') : BoxR w W' a b :=
  ⟨h.bel.trans (hb.mono h.bel.size), Nat.lt_of_lt_of_le h.lt hb.size, (hb.cell h.lt).trans h.c0, (hb.cell h.lt).trans h.c1⟩
/-- Whether a read is right. -/
def readB (s : ByteArray) (f : List (List Trm)) : Bool := shortB s && filtB f
structure SzR (s : ByteArray) (f : List (List Trm)) : Prop where
  s0 : s.size ≤ 1048576
  f0 : f.length ≤ 1048576
  f1 : ∀ l ∈ f, szC l
theorem SzR.mx {s : ByteArray} {f : List (List Trm)} (h : SzR s f) : s.size ≤ maxLen := by have := h.s0; unfold maxLen; omega
theorem SzR.len {s : ByteArray} {f : List (List Trm)} (h : SzR s f) : ∀ l ∈ f, l.length ≤ 1048576 := fun l hl => (h.f1 l hl).1
structure MaxR (s : ByteArray) (f : List (List Trm)) : Prop where
  s0 : s.size ≤ maxLen
  f0 : f.length ≤ maxLen
  f1 : ∀ l ∈ f, maxC l

set_option maxRecDepth 4000 in
set_option maxHeartbeats 1000000 in
theorem readOK_any (s : ByteArray) (p : Option Addr) (cap : Nat) (f : List (List Trm)) (w : World) (hr : RowC w p f) (hs : SzR s f) :
    Calls Tryz.prog 101 #[.agg #[.string s, .slice p f.length cap]] w fun e w' => e = .returned (.bool (readB s f)) ∧ Below w.heap.size w w' := by
  have X0 := BoxR.start w (.string s) (.slice p f.length cap) 80
  have HN : Hid (∀ W : World, Calls _ _ _ W _) := fun W => shortNameOK_any s W hs.mx
  have HF : Hid (∀ W : World, RowC W p f → Calls _ _ _ W _) := fun W hW => filterOK_any p cap f W hW hs.f0 hs.f1
  have HR : Hid (RowC _ _ _) := hr
  unfold readB
  clear hr hs
  cases hb1 : shortB s
  · rw [hb1] at HN
    have hbw := X0.bel
    go_enter Tryz.func101, Tryz.ntmps101
    go_wp2_with fail
    refine (HN.out _).mono ?_
    rintro e w1 ⟨rfl, rfl⟩
    go_wp2_with fail
    go_ret
    exact ⟨rfl, hbw⟩
  · rw [hb1] at HN
    have c1 := X0.c1
    go_enter Tryz.func101, Tryz.ntmps101
    go_wp2_with fail
    refine (HN.out _).mono ?_
    rintro e w1 ⟨rfl, rfl⟩
    go_wp2_with fail
    refine (HF.out _ (HR.out.next X0.bel)).mono ?_
    rintro e w2 ⟨rfl, hb⟩
    have hbw := (X0.step hb).bel
    clear hb
    go_wp2_with fail
    go_ret
    exact ⟨rfl, hbw⟩
set_option maxRecDepth 4000 in
set_option maxHeartbeats 1000000 in
theorem specRead_any (s : ByteArray) (p : Option Addr) (cap : Nat) (f : List (List Trm)) (w : World) (hr : RowC w p f) (hs : SzR s f) :
    Calls Tryz.prog 69 #[.agg #[.string s, .slice p f.length cap]] w fun e w' => e = .returned (.bool (readB s f)) ∧ Below w.heap.size w w' := by
  have X0 := BoxR.start w (.string s) (.slice p f.length cap) 80
  have HN : Hid (∀ W : World, Calls _ _ _ W _) := fun W => l01Name_any s W hs.mx
  have HF : Hid (∀ W : World, RowC W p f → Calls _ _ _ W _) := fun W hW => specFilt_any p cap f W hW hs.f0 hs.f1
  have HR : Hid (RowC _ _ _) := hr
  unfold readB
  clear hr hs
  cases hb1 : shortB s
  · rw [hb1] at HN
    have hbw := X0.bel
    go_enter Tryz.func69, Tryz.ntmps69
    go_wp2_with fail
    refine (HN.out _).mono ?_
    rintro e w1 ⟨rfl, rfl⟩
    go_wp2_with fail
    go_ret
    exact ⟨rfl, hbw⟩
  · rw [hb1] at HN
    have c1 := X0.c1
    go_enter Tryz.func69, Tryz.ntmps69
    go_wp2_with fail
    refine (HN.out _).mono ?_
    rintro e w1 ⟨rfl, rfl⟩
    go_wp2_with fail
    refine (HF.out _ (HR.out.next X0.bel)).mono ?_
    rintro e w2 ⟨rfl, hb⟩
    have hbw := (X0.step hb).bel
    clear hb
    go_wp2_with fail
    go_ret
    exact ⟨rfl, hbw⟩
set_option maxRecDepth 4000 in
set_option maxHeartbeats 1000000 in
theorem szRead_any (s : ByteArray) (p : Option Addr) (cap : Nat) (f : List (List Trm)) (c0 : Int) (w : World) (hin : InCl w p f) (hm : MaxR s f) (h0 : 0 ≤ c0) (h1 : c0 ≤ 1048576) :
    Calls Tryz.prog 39 #[.agg #[.string s, .slice p f.length cap], .int .i64 c0] w fun e w' => (∃ r : Int, e = .returned (.int .i64 r) ∧ (r < 0 ∨ (0 ≤ r ∧ r ≤ c0 ∧ SzR s f))) ∧ Below w.heap.size w w' := by
  have X0 := BoxR.start w (.string s) (.slice p f.length cap) 64
  have hbw := X0.bel
  have hmx := hm.s0
  unfold maxLen at hmx
  by_cases hover : c0 < (s.size : Int)
  · have hneg : c0 - (s.size : Int) < 0 := by omega
    go_enter Tryz.func39, Tryz.ntmps39
    go_wp2_with fail
    go_ret
    exact ⟨⟨-1, rfl, .inl (by omega)⟩, hbw⟩
  · have hpos : ¬ c0 - (s.size : Int) < 0 := by omega
    have HF : Hid (Calls _ _ _ _ _) := szFilter_any p cap f (c0 - s.size) _ (hin.step X0.bel) hm.f0 hm.f1 (by omega) (by omega)
    have c1 := X0.c1
    clear hin hm
    go_enter Tryz.func39, Tryz.ntmps39
    go_wp2_with fail
    refine HF.out.mono ?_
    rintro e w1 ⟨⟨r, rfl, hr⟩, hb⟩
    have hbw1 := (X0.step hb).bel
    clear hb
    rcases hr with hneg | ⟨hr0, hr1, hr2, hr3⟩
    · go_wp2_with fail
      go_ret
      exact ⟨⟨-1, rfl, .inl (by omega)⟩, hbw1⟩
    · have hnn : ¬ r < 0 := by omega
      have HR3 : Hid (∀ l ∈ f, szC l) := hr3
      clear hr3
      go_wp2_with fail
      go_ret
      exact ⟨⟨r, rfl, .inr ⟨hr0, by omega, ⟨by omega, hr2, HR3.out⟩⟩⟩, hbw1⟩
set_option maxRecDepth 4000 in
set_option maxHeartbeats 1000000 in
theorem filterMade_any (a : Option Addr) (cap : Nat) (f : List (List Trm)) (w : World) (hin : InCl w a f) (hlen : f.length ≤ 1048576) (hs : ∀ l ∈ f, l.length ≤ 1048576) :
    Calls Tryz.prog 72 #[.agg #[.slice a f.length cap]] w fun e w' => (∃ g, e = .returned (.agg #[.slice (some ⟨g, 0, none⟩) f.length f.length]) ∧ MadeC w' w.heap.size g f) ∧ Below w.heap.size w w' := by
  have hb0 : Below w.heap.size w (((w.alloc (.cells #[.slice a f.length cap] 62)).alloc (.cells #[.slice none 0 0] 78)).alloc (.cells #[.slice none 0 0] 78)) := (((Below.refl _ _).alloc (Nat.le_refl _) _).alloc (by simp) _).alloc (by simp; omega) _
  have HC : Hid (Calls _ _ _ _ _) := toClauseS_any a cap f _ (hin.step hb0) hlen hs
  clear hin hs
  go_enter Tryz.func72, Tryz.ntmps72
  go_wp2_with fail
  refine HC.out.mono ?_
  rintro e w1 ⟨⟨g, rfl, hR⟩, hb⟩
  obtain ⟨hc, hf⟩ := Go.Proofs.YtcggkeleaepebaaGreatDoor.bcell hb
  have hz : w.heap.size + 2 < w1.heap.size := by have := hb.size; simp at this; omega
  have hbw : Below w.heap.size w w1 := hb0.trans (hb.mono (by simp; omega))
  simp at hR
  have HR : Hid (MadeC _ _ _ _) := hR
  clear hb HC hR hb0
  go_wp2_with fail
  refine bodyPost_ret (v := .agg #[.slice (some ⟨g, 0, none⟩) f.length f.length]) (by simp [results, Tryz.results72, go_sem, *]) rfl ⟨⟨g, rfl, ?_⟩, ?_⟩
  · exact madeR_mono ((HR.out.set (by omega)).set (by omega)) (by omega)
  · (repeat (first | (with_reducible exact Below.refl _ _) | (with_reducible assumption) | (with_reducible apply below_drewN) | (with_reducible apply Below.drew) | ((with_reducible refine Below.setCell ?_ ?_ _); rotate_left; focus (first | (simp; done) | (simp; omega) | omega)) | ((with_reducible refine Below.alloc ?_ ?_ _); rotate_left; focus (first | (simp; done) | (simp; omega) | omega))))
/-- Blocks of two cells that are being made: the answer's and the one that is filled. -/
structure MkR (w W : World) (a b x y z u : Value) : Prop where
  bel : Below w.heap.size w W
  lt : w.heap.size + 2 < W.heap.size
  c0 : W.cell? ⟨w.heap.size, 0, none⟩ = some a
  c1 : W.cell? ⟨w.heap.size, 1, none⟩ = some b
  d0 : W.cell? ⟨w.heap.size + 1, 0, none⟩ = some x
  d1 : W.cell? ⟨w.heap.size + 1, 1, none⟩ = some y
  e0 : W.cell? ⟨w.heap.size + 2, 0, none⟩ = some z
  e1 : W.cell? ⟨w.heap.size + 2, 1, none⟩ = some u
  df : ∀ o, W.frozen? ⟨w.heap.size + 1, o, none⟩ = false
  ef : ∀ o, W.frozen? ⟨w.heap.size + 2, o, none⟩ = false
theorem MkR.start (w : World) (a b x y z u : Value) (T T2 T3 : TypeId) : MkR w (((w.alloc (.cells #[a, b] T)).alloc (.cells #[x, y] T2)).alloc (.cells #[z, u] T3)) a b x y z u :=
  ⟨(((Below.refl _ _).alloc (Nat.le_refl _) _).alloc (by simp) _).alloc (by simp; omega) _, by simp, by simp [go_sem], by simp [go_sem], by simp [go_sem], by simp [go_sem], by simp [go_sem], by simp [go_sem], fun o => by simp [go_sem], fun o => by simp [go_sem]⟩
theorem MkR.next {w W W' : World} {a b x y z u : Value} (h : MkR w W a b x y z u) (hb : Below W.heap.size W W') : MkR w W' a b x y z u := by
  have hl := h.lt
  have hc : ∀ b o, b < W.heap.size → W'.cell? ⟨b, o, none⟩ = W.cell? ⟨b, o, none⟩ := fun b o hh => hb.cell (p := ⟨b, o, none⟩) hh
  have hf : ∀ b o, b < W.heap.size → W'.frozen? ⟨b, o, none⟩ = W.frozen? ⟨b, o, none⟩ := fun b o hh => hb.frozen (p := ⟨b, o, none⟩) hh
  exact ⟨h.bel.trans (hb.mono (by omega)), Nat.lt_of_lt_of_le h.lt hb.size, (hc _ _ (by omega)).trans h.c0, (hc _ _ (by omega)).trans h.c1, (hc _ _ (by omega)).trans h.d0, (hc _ _ (by omega)).trans h.d1, (hc _ _ (by omega)).trans h.e0, (hc _ _ (by omega)).trans h.e1, fun o => (hf _ _ (by omega)).trans (h.df o), fun o => (hf _ _ (by omega)).trans (h.ef o)⟩
set_option maxRecDepth 4000 in
set_option maxHeartbeats 1000000 in
theorem toRead_any (s : ByteArray) (p : Option Addr) (cap : Nat) (f : List (List Trm)) (w : World) (hin : InCl w p f) (hs : SzR s f) :
    Calls Tryz.prog 46 #[.agg #[.string s, .slice p f.length cap]] w fun e w' => (∃ g, e = .returned (.agg #[.string s, .slice (some ⟨g, 0, none⟩) f.length f.length]) ∧ MadeC w' w.heap.size g f) ∧ Below w.heap.size w w' := by
  have M0 := MkR.start w (.string s) (.slice p f.length cap) (.string em) (.slice none 0 0) (.string s) (.slice none 0 0) 64 80 80
  have HC : Hid (Calls _ _ _ _ _) := filterMade_any p cap f _ (hin.step M0.bel) hs.f0 hs.len
  clear hin hs
  go_enter Tryz.func46, Tryz.ntmps46
  go_wp2_with fail
  refine HC.out.mono ?_
  rintro e w1 ⟨⟨g, rfl, hR⟩, hb⟩
  have HR : Hid (MadeC _ _ _ _) := madeR_mono (base' := w.heap.size + 3) hR (by simp)
  obtain ⟨mb, ml, c0, c1, d0, d1, e0, e1, mdf, mef⟩ := M0.next hb
  clear hb HC hR M0
  go_wp2_with fail
  refine bodyPost_ret (v := .agg #[.string s, .slice (some ⟨g, 0, none⟩) f.length f.length]) (by simp [results, Tryz.results46, go_sem, *]) rfl ⟨⟨g, rfl, ?_⟩, ?_⟩
  · exact madeR_mono (((HR.out.set (by omega)).set (by omega)).set (by omega)) (by omega)
  · (repeat (first | (with_reducible exact Below.refl _ _) | (with_reducible assumption) | (with_reducible apply below_drewN) | (with_reducible apply Below.drew) | ((with_reducible refine Below.setCell ?_ ?_ _); rotate_left; focus (first | (simp; done) | (simp; omega) | omega)) | ((with_reducible refine Below.alloc ?_ ?_ _); rotate_left; focus (first | (simp; done) | (simp; omega) | omega))))
set_option maxRecDepth 4000 in
set_option maxHeartbeats 1000000 in
theorem eqRead_same (s : ByteArray) (p1 p2 : Option Addr) (c1 c2 : Nat) (f : List (List Trm)) (w : World) (h1 : RowC w p1 f) (h2 : RowC w p2 f) (hs : SzR s f) :
    Calls Tryz.prog 61 #[.agg #[.string s, .slice p1 f.length c1], .agg #[.string s, .slice p2 f.length c2]] w fun e w' => e = .returned (.bool true) ∧ Below w.heap.size w w' := by
  have hb0 : Below w.heap.size w ((w.alloc (.cells #[.string s, .slice p1 f.length c1] 80)).alloc (.cells #[.string s, .slice p2 f.length c2] 80)) := ((Below.refl _ _).alloc (Nat.le_refl _) _).alloc (by simp) _
  have HC : Hid (Calls _ _ _ _ _) := eqFilter_same p1 p2 c1 c2 f _ (h1.next hb0) (h2.next hb0) hs.f0 hs.len
  clear h1 h2 hs
  go_enter Tryz.func61, Tryz.ntmps61
  go_wp2_with fail
  refine HC.out.mono ?_
  rintro e w1 ⟨rfl, hb⟩
  have hbw := hb0.trans (hb.mono hb0.size)
  clear hb
  go_wp2_with fail
  go_ret
  exact ⟨rfl, hbw⟩
theorem cellsRd : Tryz.prog.cellsOf 64 = 2 := by kernel_rfl
theorem cellsRF : Tryz.prog.cellsOf 62 = 1 := by kernel_rfl
theorem cellsRT : Tryz.prog.cellsOf 9 = 1 := by kernel_rfl
theorem cellsRC : Tryz.prog.cellsOf 60 = 1 := by kernel_rfl
set_option maxRecDepth 100000 in
theorem open_read {H : Type} {enc : TypeId × Value → H} {w : World} {base b0 : Nat} {spare : Nat → Bool} {held : Bool} {r : Reach} {v : Value} {d : DataW H} {ps : List MemPlace}
    (hv : Value.okWide Tryz.prog w r b0 64 v) (h : DataW.Trod enc Tryz.prog w base spare held 64 v d ps) :
    ∃ (s : ByteArray) (p : Option Addr) (cap : Nat) (f : List (List Trm)), v = .agg #[.string s, .slice p f.length cap] ∧ MaxR s f ∧ InCl w p f := by
  obtain ⟨cs, rfl, hsz⟩ := okWide_struct Tryz.underlying64 hv
  obtain ⟨fuel, hf⟩ := h
  rw [cellsRd] at hsz
  obtain ⟨l⟩ := cs
  match l, hsz with
  | [c0, c1], _ =>
    obtain ⟨y0, y1, n, _, _, t0, t1⟩ := trod_struct2 Tryz.underlying64 (show DataW.trod enc Tryz.prog w base spare held fuel 64 [c0, c1] = some _ by simpa [Value.cells] using hf)
    obtain ⟨z0, n', _, _, u0⟩ := trod_struct1 Tryz.underlying62 t1
    obtain ⟨pf, ln, cf, f, e1, hln, hf1, hf2, hf3⟩ := open_clauses u0
    obtain ⟨hi, e0, _, hh⟩ := DataW.trod_string Tryz.underlying9 t0
    simp [cellsRF, cellsRT, cellsRC] at e0 e1
    subst e0 e1 hln
    exact ⟨hi, pf, cf, f, rfl, ⟨hh, hf1, hf2⟩, hf3⟩
theorem keepR {w W w0 : World} {a b : Value} {bx : Nat} {x y : Value} (X : BoxR w W a b) (m : bx < W.heap.size) (e0 : W.cell? ⟨bx, 0, none⟩ = some x) (e1 : W.cell? ⟨bx, 1, none⟩ = some y) (hb : Below W.heap.size W w0) :
    w0.cell? ⟨w.heap.size, 0, none⟩ = some a ∧ w0.cell? ⟨w.heap.size, 1, none⟩ = some b ∧ w0.cell? ⟨bx, 0, none⟩ = some x ∧ w0.cell? ⟨bx, 1, none⟩ = some y :=
  ⟨(hb.cell X.lt).trans X.c0, (hb.cell X.lt).trans X.c1, (hb.cell m).trans e0, (hb.cell m).trans e1⟩

end Go.Proofs.YtcggkeleaepebaaGreatDoor.Rea
