/- What the laws' own small helpers on operations answer. -/
import Derived.Test.YtbplmgmajmomcaaGreatDoorUpdW
import Derived.Test.YtbplmgmajmomcaaGreatDoorRowV
namespace Go.Proofs.YtbplmgmajmomcaaGreatDoor
open Go.RowKit
set_option linter.unusedVariables false

set_option maxRecDepth 4000 in
set_option maxHeartbeats 1000000 in
theorem szUpdate_any (op : Int) (p : ByteArray) (k n : Int) (t : ByteArray) (c : Int) (w : World) (hp : p.size ≤ maxLen) (ht : t.size ≤ maxLen) (hc : 0 ≤ c) (hc2 : c ≤ 1048576) :
    Calls Tryz.prog 103 #[.agg #[.int .i64 op, .string p, .int .i64 k, .int .i64 n, .string t], .int .i64 c] w fun e w' => (∃ r : Int, e = .returned (.int .i64 r) ∧ (r < 0 ∨ (0 ≤ r ∧ r ≤ c ∧ p.size ≤ 1048576 ∧ t.size ≤ 1048576))) ∧ Below w.heap.size w w' := by
  have X0 := Box5.start w (.int .i64 op) (.string p) (.int .i64 k) (.int .i64 n) (.string t) 179
  unfold maxLen at hp
  by_cases h : c < p.size
  · go_enter Tryz.func103, Tryz.ntmps103
    go_wp2_with fail
    go_ret
    exact ⟨⟨-1, rfl, .inl (by omega)⟩, X0.bel⟩
  · go_enter Tryz.func103, Tryz.ntmps103
    go_wp2_with fail
    refine (szValue_any k n t _ _ ht (by omega) (by omega)).mono ?_
    rintro e w1 ⟨rfl, hb⟩
    have X1 := X0.step hb
    clear hb X0
    by_cases h2 : c - p.size < t.size
    · rw [if_pos h2]
      go_wp2_with fail
      go_ret
      exact ⟨⟨-1, rfl, .inl (by omega)⟩, X1.bel⟩
    · rw [if_neg h2]
      go_wp2_with fail
      go_ret
      exact ⟨⟨_, rfl, .inr ⟨by omega, by omega, by omega, by omega⟩⟩, X1.bel⟩

set_option maxRecDepth 4000 in
set_option maxHeartbeats 1000000 in
theorem toUpdate_any (op : Int) (p : ByteArray) (k n : Int) (t : ByteArray) (w : World) :
    Calls Tryz.prog 112 #[.agg #[.int .i64 op, .string p, .int .i64 k, .int .i64 n, .string t]] w fun e w' => e = .returned (.agg #[.int .i64 op, .string p, .int .i64 k, .int .i64 n, .string t]) ∧ Below w.heap.size w w' := by
  go_enter Tryz.func112, Tryz.ntmps112
  go_wp2_with fail
  refine (toValue_any k n t _).mono ?_
  rintro e w1 ⟨rfl, hb⟩
  obtain ⟨hc, hf⟩ := bcell hb
  have hz : w.heap.size + 2 < w1.heap.size := by have := hb.size; simp at this; omega
  have hbw : Below w.heap.size w w1 := ((((Below.refl _ _).alloc (Nat.le_refl _) _).alloc (by simp) _).alloc (by simp; omega) _).trans (hb.mono (by simp; omega))
  clear hb
  go_wp2_with fail
  refine bodyPost_ret (v := .agg #[.int .i64 op, .string p, .int .i64 k, .int .i64 n, .string t]) (by simp [results, Tryz.results112, go_sem, *]) rfl ⟨rfl, ?_⟩
  (repeat (first | (with_reducible exact Below.refl _ _) | (with_reducible assumption) | (with_reducible apply below_drewN) | (with_reducible apply Below.drew) | ((with_reducible refine Below.setCell ?_ ?_ _); rotate_left; focus (first | (simp; done) | (simp; omega) | omega)) | ((with_reducible refine Below.alloc ?_ ?_ _); rotate_left; focus (first | (simp; done) | (simp; omega) | omega))))

end Go.Proofs.YtbplmgmajmomcaaGreatDoor

/- Rows of updates: what the laws' own helpers on them answer. -/
namespace Go.Proofs.YtbplmgmajmomcaaGreatDoor.Up
open Go.RowKit
set_option linter.unusedVariables false

/-- A term, its texts as bytes. -/
structure Trm where
  op : Int
  p : ByteArray
  c : Val
theorem infoT : (Tryz.prog.info? 189).map (fun i => (i.zero, i.size, i.bytes)) = some (some (.agg #[.int .i64 0, .string em, .int .i64 0, .int .i64 0, .string em]), 5, 56) := by kernel_rfl
def zt : Trm := ⟨0, em, zv⟩
def rowT (t : Trm) : List Value := [.int .i64 t.op, .string t.p, .int .i64 t.c.k, .int .i64 t.c.n, .string t.c.t]
def flatT (l : List Trm) : List Value := l.flatMap rowT
theorem flatT_snoc (l : List Trm) (f : Trm) : flatT (l ++ [f]) = flatT l ++ rowT f := by unfold flatT; simp
theorem flatT_app (a b : List Trm) : flatT (a ++ b) = flatT a ++ flatT b := by unfold flatT; simp
theorem flatT_cons (v : Trm) (l : List Trm) : flatT (v :: l) = .int .i64 v.op :: .string v.p :: .int .i64 v.c.k :: .int .i64 v.c.n :: .string v.c.t :: flatT l := rfl
theorem flatT_len (l : List Trm) : (flatT l).length = l.length * 5 := by
  induction l with
  | nil => rfl
  | cons v l ih => rw [flatT_cons]; simp [ih]; omega
theorem flatT_get : ∀ (l : List Trm) (i : Nat) (h : i < l.length), (flatT l)[i * 5]? = some (.int .i64 l[i].op) ∧ (flatT l)[i * 5 + 1]? = some (.string l[i].p) ∧ (flatT l)[i * 5 + 2]? = some (.int .i64 l[i].c.k) ∧ (flatT l)[i * 5 + 3]? = some (.int .i64 l[i].c.n) ∧ (flatT l)[i * 5 + 4]? = some (.string l[i].c.t)
  | v :: l, 0, _ => ⟨rfl, rfl, rfl, rfl, rfl⟩
  | v :: l, i + 1, h => by
    have ih := flatT_get l i (by simpa using h)
    have e : flatT (v :: l) = rowT v ++ flatT l := by unfold flatT; simp
    rw [e, show (i + 1) * 5 = i * 5 + 5 by omega]
    have hl : (rowT v).length = 5 := rfl
    refine ⟨?_, ?_, ?_, ?_, ?_⟩
    · rw [List.getElem?_append_right (by omega), hl]; simpa using ih.1
    · rw [List.getElem?_append_right (by omega), hl, show i * 5 + 5 + 1 - 5 = i * 5 + 1 by omega]; simpa using ih.2.1
    · rw [List.getElem?_append_right (by omega), hl, show i * 5 + 5 + 2 - 5 = i * 5 + 2 by omega]; simpa using ih.2.2.1
    · rw [List.getElem?_append_right (by omega), hl, show i * 5 + 5 + 3 - 5 = i * 5 + 3 by omega]; simpa using ih.2.2.2.1
    · rw [List.getElem?_append_right (by omega), hl, show i * 5 + 5 + 4 - 5 = i * 5 + 4 by omega]; simpa using ih.2.2.2.2
theorem flatT_set : ∀ (l : List Trm) (k : Nat) (v : Trm), k < l.length → (((((flatT l).set (k * 5) (.int .i64 v.op)).set (k * 5 + 1) (.string v.p)).set (k * 5 + 2) (.int .i64 v.c.k)).set (k * 5 + 3) (.int .i64 v.c.n)).set (k * 5 + 4) (.string v.c.t) = flatT (l.set k v)
  | [], k, v, h => by simp at h
  | u :: l, 0, v, _ => rfl
  | u :: l, k + 1, v, h => by
    rw [List.set_cons_succ, flatT_cons, flatT_cons, ← flatT_set l k v (by simpa using h)]
    rw [show (k + 1) * 5 = k * 5 + 1 + 1 + 1 + 1 + 1 by omega]
    rfl
/-- A row of terms that stands at a block's head. -/
structure ReadT (w : World) (g : Nat) (l : List Trm) : Prop where
  lt : g < w.heap.size
  cells : ∀ i (h : i < l.length), w.cell? ⟨g, i * 5, none⟩ = some (.int .i64 l[i].op) ∧ w.cell? ⟨g, i * 5 + 1, none⟩ = some (.string l[i].p) ∧ w.cell? ⟨g, i * 5 + 2, none⟩ = some (.int .i64 l[i].c.k) ∧ w.cell? ⟨g, i * 5 + 3, none⟩ = some (.int .i64 l[i].c.n) ∧ w.cell? ⟨g, i * 5 + 4, none⟩ = some (.string l[i].c.t)
theorem ReadT.step {w w' : World} {g base : Nat} {l : List Trm} (h : ReadT w g l) (hb : Below base w w') (hg : g < base) : ReadT w' g l :=
  ⟨Nat.lt_of_lt_of_le h.lt hb.size, fun i hi => ⟨(hb.cell hg).trans (h.cells i hi).1, (hb.cell hg).trans (h.cells i hi).2.1, (hb.cell hg).trans (h.cells i hi).2.2.1, (hb.cell hg).trans (h.cells i hi).2.2.2.1, (hb.cell hg).trans (h.cells i hi).2.2.2.2⟩⟩
theorem ReadT.next {w w' : World} {g : Nat} {l : List Trm} (h : ReadT w g l) (hb : Below w.heap.size w w') : ReadT w' g l := h.step hb h.lt
theorem ReadT.grown {w w' : World} {g : Nat} {l : List Trm} {row : Option Nat} (h : ReadT w g l) (hg : w.grownBy w' row) (hne : some g ≠ row) : ReadT w' g l :=
  ⟨Nat.lt_of_lt_of_le h.lt hg.size, fun i hi => ⟨(World.cell?_of_block (hg.block g h.lt hne)).trans (h.cells i hi).1, (World.cell?_of_block (hg.block g h.lt hne)).trans (h.cells i hi).2.1, (World.cell?_of_block (hg.block g h.lt hne)).trans (h.cells i hi).2.2.1, (World.cell?_of_block (hg.block g h.lt hne)).trans (h.cells i hi).2.2.2.1, (World.cell?_of_block (hg.block g h.lt hne)).trans (h.cells i hi).2.2.2.2⟩⟩
theorem ReadT.of_own {w : World} {base g cap : Nat} {l : List Trm} (h : w.ownsRow base 189 5 (.slice (some ⟨g, 0, none⟩) l.length cap) l.length (flatT l)) : ReadT w g l :=
  ⟨(h.lt g rfl).2, fun i hi => ⟨owns_cell h _ _ (flatT_get l i hi).1, owns_cell h _ _ (flatT_get l i hi).2.1, owns_cell h _ _ (flatT_get l i hi).2.2.1, owns_cell h _ _ (flatT_get l i hi).2.2.2.1, owns_cell h _ _ (flatT_get l i hi).2.2.2.2⟩⟩
/-- A row of terms, a nil one too. -/
def RowT (w : World) (p : Option Addr) (l : List Trm) : Prop := l = [] ∨ ∃ g, p = some ⟨g, 0, none⟩ ∧ ReadT w g l
theorem RowT.next {w w' : World} {p : Option Addr} {l : List Trm} (h : RowT w p l) (hb : Below w.heap.size w w') : RowT w' p l := by
  rcases h with h | ⟨g, hp, hr⟩
  · exact .inl h
  · exact .inr ⟨g, hp, hr.next hb⟩
/-- Terms that came in. -/
def InT (w : World) (a : Option Addr) (l : List Trm) : Prop := l.length = 0 ∨ ∃ b off, a = some ⟨b, off, none⟩ ∧ b < w.heap.size ∧ ∀ i (h : i < l.length), w.cell? ⟨b, off + i * 5, none⟩ = some (.int .i64 l[i].op) ∧ w.cell? ⟨b, off + i * 5 + 1, none⟩ = some (.string l[i].p) ∧ w.cell? ⟨b, off + i * 5 + 2, none⟩ = some (.int .i64 l[i].c.k) ∧ w.cell? ⟨b, off + i * 5 + 3, none⟩ = some (.int .i64 l[i].c.n) ∧ w.cell? ⟨b, off + i * 5 + 4, none⟩ = some (.string l[i].c.t)
theorem InT.step {w w' : World} {a : Option Addr} {l : List Trm} (h : InT w a l) (hb : Below w.heap.size w w') : InT w' a l := by
  rcases h with h | ⟨b, off, ha, hlt, hc⟩
  · exact .inl h
  · exact .inr ⟨b, off, ha, Nat.lt_of_lt_of_le hlt hb.size, fun i hi => ⟨(hb.cell hlt).trans (hc i hi).1, (hb.cell hlt).trans (hc i hi).2.1, (hb.cell hlt).trans (hc i hi).2.2.1, (hb.cell hlt).trans (hc i hi).2.2.2.1, (hb.cell hlt).trans (hc i hi).2.2.2.2⟩⟩
/-- The first k terms, and zero ones behind them. -/
def mixT (l : List Trm) (k : Nat) : List Trm := l.take k ++ List.replicate (l.length - k) zt
theorem mixT_len (l : List Trm) (k : Nat) (h : k ≤ l.length) : (mixT l k).length = l.length := by unfold mixT; simp; omega
theorem mixT_full (l : List Trm) (k : Nat) (h : l.length ≤ k) : mixT l k = l := by
  unfold mixT; rw [List.take_of_length_le h, Nat.sub_eq_zero_of_le h]; simp
theorem mixT_set (l : List Trm) (k : Nat) (h : k < l.length) : (mixT l k).set k l[k] = mixT l (k + 1) := by
  unfold mixT
  have hl : (l.take k).length = k := by simp; omega
  rw [List.take_succ_eq_append_getElem h, List.append_assoc, List.set_append_right _ _ (by omega)]
  congr 1
  rw [hl, Nat.sub_self]
  obtain ⟨m, hm⟩ : ∃ m, l.length - k = m + 1 := ⟨l.length - k - 1, by omega⟩
  rw [hm, List.replicate_succ, show l.length - (k + 1) = m by omega]
  rfl
theorem made_zeroT (n : Nat) : (madeCells (Value.agg #[.int .i64 0, .string em, .int .i64 0, .int .i64 0, .string em]).cells (n * 5)).toList = flatT (List.replicate n zt) := by
  apply List.ext_getElem?
  intro j
  by_cases hj : j < n * 5
  · have hg := flatT_get (List.replicate n zt) (j / 5) (by simp; omega)
    simp only [List.getElem_replicate] at hg
    have hc : (Value.agg #[.int .i64 0, .string em, .int .i64 0, .int .i64 0, .string em]).cells = #[.int .i64 0, .string em, .int .i64 0, .int .i64 0, .string em] := by rfl
    rw [hc]
    have h3 : j % 5 = 0 ∨ j % 5 = 1 ∨ j % 5 = 2 ∨ j % 5 = 3 ∨ j % 5 = 4 := by omega
    rcases h3 with h3 | h3 | h3 | h3 | h3
    · have e : j = j / 5 * 5 := by omega
      rw [show (flatT (List.replicate n zt))[j]? = (flatT (List.replicate n zt))[j / 5 * 5]? by rw [← e], hg.1]
      simp [madeCells, hj, h3, zt, zv]
    · have e : j = j / 5 * 5 + 1 := by omega
      rw [show (flatT (List.replicate n zt))[j]? = (flatT (List.replicate n zt))[j / 5 * 5 + 1]? by rw [← e], hg.2.1]
      simp [madeCells, hj, h3, zt, zv]
    · have e : j = j / 5 * 5 + 2 := by omega
      rw [show (flatT (List.replicate n zt))[j]? = (flatT (List.replicate n zt))[j / 5 * 5 + 2]? by rw [← e], hg.2.2.1]
      simp [madeCells, hj, h3, zt, zv]
    · have e : j = j / 5 * 5 + 3 := by omega
      rw [show (flatT (List.replicate n zt))[j]? = (flatT (List.replicate n zt))[j / 5 * 5 + 3]? by rw [← e], hg.2.2.2.1]
      simp [madeCells, hj, h3, zt, zv]
    · have e : j = j / 5 * 5 + 4 := by omega
      rw [show (flatT (List.replicate n zt))[j]? = (flatT (List.replicate n zt))[j / 5 * 5 + 4]? by rw [← e], hg.2.2.2.2]
      simp [madeCells, hj, h3, zt, zv]
  · rw [List.getElem?_eq_none (by simp [madeCells]; omega), List.getElem?_eq_none (by rw [flatT_len]; simp; omega)]

def szT (t : Trm) : Prop := t.p.size ≤ 1048576 ∧ t.c.t.size ≤ 1048576
def maxT (t : Trm) : Prop := t.p.size ≤ maxLen ∧ t.c.t.size ≤ maxLen
theorem take_allT (p : Trm → Prop) (l : List Trm) (k : Nat) (h : k < l.length) (h1 : ∀ v ∈ l.take k, p v) (h2 : p l[k]) : ∀ v ∈ l.take (k + 1), p v := by
  intro v hv
  rw [List.take_succ_eq_append_getElem h] at hv
  rcases List.mem_append.mp hv with hv | hv
  · exact h1 v hv
  · rw [List.mem_singleton.mp hv]; exact h2

set_option maxRecDepth 4000 in
set_option maxHeartbeats 1000000 in
theorem szUpdateS_any (a : Option Addr) (cap : Nat) (l : List Trm) (c0 : Int) (w : World) (hin : InT w a l) (hl : l.length ≤ maxLen) (hs : ∀ v ∈ l, maxT v) (h0 : 0 ≤ c0) (h1 : c0 ≤ 1048576) :
    Calls Tryz.prog 51 #[.slice a l.length cap, .int .i64 c0] w fun e w' => (∃ r : Int, e = .returned (.int .i64 r) ∧ (r < 0 ∨ (0 ≤ r ∧ r ≤ c0 ∧ l.length ≤ 1048576 ∧ ∀ v ∈ l, szT v))) ∧ Below w.heap.size w w' := by
  unfold maxLen at hl
  have HI : Hid _ := hin
  have HS : Hid _ := hs
  clear hin hs
  by_cases hbig : c0 < (l.length : Int)
  · have hneg : c0 - (l.length : Int) < 0 := by omega
    go_enter Tryz.func51, Tryz.ntmps51
    go_wp2_with fail
    go_ret
    exact ⟨⟨-1, rfl, .inl (by omega)⟩, Below.refl _ _⟩
  · have hneg : ¬ c0 - (l.length : Int) < 0 := by omega
    go_enter Tryz.func51, Tryz.ntmps51
    go_wp2_with fail
    go_loopw [1, 5] (fun u i wr => ∃ k : Nat, k ≤ l.length ∧ i = .int .i64 k ∧ ∃ c : Int, u = .int .i64 c ∧ 0 ≤ c ∧ c ≤ c0 ∧ (∀ v ∈ l.take k, szT v) ∧ Below w.heap.size w wr) (fun _ i _ => l.length - (intOf i).toNat)
    case atStart => exact ⟨0, Nat.zero_le _, rfl, _, rfl, by omega, by omega, (fun v hv => by simp at hv), Below.refl _ _⟩
    case round =>
      obtain ⟨k, hk, rfl, c, rfl, hc0, hc1, hall, hbel⟩ := hrel
      have HA : Hid _ := hall
      clear hall
      by_cases hlt : k < l.length
      · rcases HI.out with h0' | ⟨b, off, rfl, hbl, hcell⟩
        · omega
        · have hlt2 : (k : Int) < (l.length : Int) := by omega
          have x0 := (hbel.cell hbl).trans (hcell k hlt).1
          have x1 := (hbel.cell hbl).trans (hcell k hlt).2.1
          have x2 := (hbel.cell hbl).trans (hcell k hlt).2.2.1
          have x3 := (hbel.cell hbl).trans (hcell k hlt).2.2.2.1
          have x4 := (hbel.cell hbl).trans (hcell k hlt).2.2.2.2
          have hsz := HS.out l[k] (List.getElem_mem _)
          clear hcell
          go_wp2_with fail
          refine (szUpdate_any _ _ _ _ _ c _ hsz.1 hsz.2 hc0 (by omega)).mono ?_
          rintro e w1 ⟨⟨r, rfl, hr⟩, hb⟩
          have hb1 := hbel.trans (hb.mono hbel.size)
          clear hb
          rcases hr with hneg2 | ⟨hr0, hr1, hr2, hr3⟩
          · go_wp2_with fail
            go_ret
            exact ⟨⟨-1, rfl, .inl (by omega)⟩, hb1⟩
          · have hnn : ¬ r < 0 := by omega
            have HSZ : Hid (szT l[k]) := ⟨hr2, hr3⟩
            clear hr2 hr3
            go_wp2_with fail
            go_roundw
            case rel => exact ⟨k + 1, by omega, by go_num, r, rfl, by omega, by omega, take_allT _ l k hlt HA.out HSZ.out, hb1⟩
            case measure => simp [intOf]; omega
      · have hlt2 : ¬ (k : Int) < (l.length : Int) := by omega
        go_wp2_with fail
        go_ret
        exact ⟨⟨c, rfl, .inr ⟨hc0, hc1, by omega, by have := HA.out; rw [List.take_of_length_le (by omega)] at this; exact this⟩⟩, hbel⟩

set_option maxRecDepth 4000 in
set_option maxHeartbeats 1000000 in
theorem toUpdateS_any (a : Option Addr) (cap : Nat) (l : List Trm) (w : World) (hin : InT w a l) (hlen : l.length ≤ 1048576) :
    Calls Tryz.prog 61 #[.slice a l.length cap] w fun e w' => (∃ g, e = .returned (.slice (some ⟨g, 0, none⟩) l.length l.length) ∧ w.heap.size ≤ g ∧ ReadT w' g l) ∧ Below w.heap.size w w' := by
  obtain ⟨i0, hi, hz0, hz1, hz2⟩ := info_parts infoT
  have HI : Hid _ := hin
  clear hin
  go_enter Tryz.func61, Tryz.ntmps61
  go_wp2_with (refine wpList_make_full _ rfl (.tmp 6) (.tmp 6) 60 rfl w.heap.size 189 i0 (.agg #[.int .i64 0, .string em, .int .i64 0, .int .i64 0, .string em]) 5 Tryz.underlying60 hi hz0 hz1 .i64 .i64 _ _ l.length rfl rfl rfl rfl (by rw [hz2]; omega) (by unfold maxLen; omega) (Nat.le_refl _) ?_; intro w1 hown1 hgrow1)
  have hb1 : Below w.heap.size w w1 := Below.grown (Below.refl _ _) hgrow1 (Nat.le_refl _) (fun k h => by cases h)
  have hz : w.heap.size < w1.heap.size := (World.ownsRow.lt hown1 w.heap.size rfl).2
  rw [made_zeroT, show List.replicate l.length zt = mixT l 0 from by simp [mixT]] at hown1
  clear hgrow1
  go_loopw [4] (fun i wr => ∃ k : Nat, k ≤ l.length ∧ i = .int .i64 k ∧ wr.ownsRow w.heap.size 189 5 (.slice (some ⟨w.heap.size, 0, none⟩) l.length l.length) l.length (flatT (mixT l k)) ∧ Below w.heap.size w wr) (fun i _ => l.length - (intOf i).toNat)
  case atStart => exact ⟨0, Nat.zero_le _, rfl, hown1, hb1⟩
  case round =>
    obtain ⟨k, hk, rfl, hown, hbel⟩ := hrel
    clear hown1 hb1 hz
    by_cases hlt : k < l.length
    · rcases HI.out with h0 | ⟨b, off, rfl, hbl, hc⟩
      · omega
      · have hlt2 : (k : Int) < (l.length : Int) := by omega
        have x0 := (hbel.cell hbl).trans (hc k hlt).1
        have x1 := (hbel.cell hbl).trans (hc k hlt).2.1
        have x2 := (hbel.cell hbl).trans (hc k hlt).2.2.1
        have x3 := (hbel.cell hbl).trans (hc k hlt).2.2.2.1
        have x4 := (hbel.cell hbl).trans (hc k hlt).2.2.2.2
        have hz := hbel.size
        have HO : Hid (World.ownsRow _ _ _ _ _ _ _) := hown
        have HB : Hid _ := hbel
        have hgl : w.heap.size < wr.heap.size := (hown.lt _ rfl).2
        clear hc hown hbel
        go_wp2_with fail
        refine (toUpdate_any _ _ _ _ _ _).mono ?_
        rintro e w2 ⟨rfl, hb2⟩
        have hown2 := owns_below HO.out hb2
        have hm := mixT_len l k hk
        have hg := flatT_get (mixT l k) k (by omega)
        obtain ⟨z0, y0⟩ : ∃ u, w2.cell? ⟨w.heap.size, k * 5, none⟩ = some u := ⟨_, owns_cell hown2 _ _ hg.1⟩
        obtain ⟨z1, y1⟩ : ∃ u, w2.cell? ⟨w.heap.size, k * 5 + 1, none⟩ = some u := ⟨_, owns_cell hown2 _ _ hg.2.1⟩
        obtain ⟨z2, y2⟩ : ∃ u, w2.cell? ⟨w.heap.size, k * 5 + 2, none⟩ = some u := ⟨_, owns_cell hown2 _ _ hg.2.2.1⟩
        obtain ⟨z3, y3⟩ : ∃ u, w2.cell? ⟨w.heap.size, k * 5 + 3, none⟩ = some u := ⟨_, owns_cell hown2 _ _ hg.2.2.2.1⟩
        obtain ⟨z4, y4⟩ : ∃ u, w2.cell? ⟨w.heap.size, k * 5 + 4, none⟩ = some u := ⟨_, owns_cell hown2 _ _ hg.2.2.2.2⟩
        have f0 := World.ownsRow.frozenAt hown2 (k * 5)
        have f1 := World.ownsRow.frozenAt hown2 (k * 5 + 1)
        have f2 := World.ownsRow.frozenAt hown2 (k * 5 + 2)
        have f3 := World.ownsRow.frozenAt hown2 (k * 5 + 3)
        have f4 := World.ownsRow.frozenAt hown2 (k * 5 + 4)
        have hst := (World.ownsRow.stored (World.ownsRow.stored (World.ownsRow.stored (World.ownsRow.stored (World.ownsRow.stored hown2 (k * 5) (.int .i64 l[k].op)).1 (k * 5 + 1) (.string l[k].p)).1 (k * 5 + 2) (.int .i64 l[k].c.k)).1 (k * 5 + 3) (.int .i64 l[k].c.n)).1 (k * 5 + 4) (.string l[k].c.t)).1
        rw [flatT_set _ _ _ (by omega), mixT_set l k hlt] at hst
        have HS : Hid (World.ownsRow _ _ _ _ _ _ _) := hst
        have HB2 : Hid _ := HB.out.trans (hb2.mono HB.out.size)
        have hz2 := hb2.size
        clear hst hown2 hg hm hb2
        go_wp2_with fail
        go_roundw
        case rel => exact ⟨k + 1, by omega, by go_num, HS.out, ((((HB2.out.setCell (Nat.le_refl _) _).setCell (Nat.le_refl _) _).setCell (Nat.le_refl _) _).setCell (Nat.le_refl _) _).setCell (Nat.le_refl _) _⟩
        case measure => simp [intOf]; omega
    · have hlt2 : ¬ (k : Int) < (l.length : Int) := by omega
      go_wp2_with fail
      go_ret
      rw [mixT_full l k (by omega)] at hown
      exact ⟨⟨w.heap.size, rfl, Nat.le_refl _, ReadT.of_own hown⟩, hbel⟩

set_option maxRecDepth 4000 in
set_option maxHeartbeats 1000000 in
theorem eqUpdate_same (op : Int) (p : ByteArray) (k n : Int) (t : ByteArray) (w : World) :
    Calls Tryz.prog 122 #[.agg #[.int .i64 op, .string p, .int .i64 k, .int .i64 n, .string t], .agg #[.int .i64 op, .string p, .int .i64 k, .int .i64 n, .string t]] w fun e w' => e = .returned (.bool true) ∧ Below w.heap.size w w' := by
  go_enter Tryz.func122, Tryz.ntmps122
  go_wp2_with (go_at_call 66; refine (eqValue_same k n t _).mono ?_; rintro e w1 ⟨rfl, hb⟩)
  go_ret
  exact ⟨rfl, (((Below.refl _ _).alloc (Nat.le_refl _) _).alloc (by simp) _).trans (hb.mono (by simp; omega))⟩
set_option maxRecDepth 4000 in
set_option maxHeartbeats 1000000 in
theorem eqUpdateS_same (p1 p2 : Option Addr) (c1 c2 : Nat) (l : List Trm) (w : World) (h1 : RowT w p1 l) (h2 : RowT w p2 l) (hlen : l.length ≤ 1048576) :
    Calls Tryz.prog 68 #[.slice p1 l.length c1, .slice p2 l.length c2] w fun e w' => e = .returned (.bool true) ∧ Below w.heap.size w w' := by
  have H1 : Hid (RowT _ _ _) := h1
  have H2 : Hid (RowT _ _ _) := h2
  clear h1 h2
  go_enter Tryz.func68, Tryz.ntmps68
  go_wp2_with fail
  go_loopw [5] (fun i wr => ∃ k : Nat, k ≤ l.length ∧ i = .int .i64 k ∧ Below w.heap.size w wr) (fun i _ => l.length - (intOf i).toNat)
  case atStart => exact ⟨0, Nat.zero_le _, rfl, Below.refl _ _⟩
  case round =>
    obtain ⟨k, hk, rfl, hbel⟩ := hrel
    by_cases hlt : k < l.length
    · rcases H1.out.next hbel with h0 | ⟨g1, rfl, R1⟩
      · subst h0; simp at hlt
      rcases H2.out.next hbel with h0 | ⟨g2, rfl, R2⟩
      · subst h0; simp at hlt
      have x1 := R1.cells k hlt
      have x2 := R2.cells k hlt
      have l1 := R1.lt
      have l2 := R2.lt
      have hk1 : (k : Int) < (l.length : Int) := by omega
      have q0 : ∀ u : Under wr, u.x.cell? ⟨g1, k * 5, none⟩ = some (.int .i64 l[k].op) := fun u => (u.h.cell l1).trans x1.1
      have r0 : ∀ u : Under wr, u.x.cell? ⟨g2, k * 5, none⟩ = some (.int .i64 l[k].op) := fun u => (u.h.cell l2).trans x2.1
      have q1 : ∀ u : Under wr, u.x.cell? ⟨g1, k * 5 + 1, none⟩ = some (.string l[k].p) := fun u => (u.h.cell l1).trans x1.2.1
      have r1 : ∀ u : Under wr, u.x.cell? ⟨g2, k * 5 + 1, none⟩ = some (.string l[k].p) := fun u => (u.h.cell l2).trans x2.2.1
      have q2 : ∀ u : Under wr, u.x.cell? ⟨g1, k * 5 + 2, none⟩ = some (.int .i64 l[k].c.k) := fun u => (u.h.cell l1).trans x1.2.2.1
      have r2 : ∀ u : Under wr, u.x.cell? ⟨g2, k * 5 + 2, none⟩ = some (.int .i64 l[k].c.k) := fun u => (u.h.cell l2).trans x2.2.2.1
      have q3 : ∀ u : Under wr, u.x.cell? ⟨g1, k * 5 + 3, none⟩ = some (.int .i64 l[k].c.n) := fun u => (u.h.cell l1).trans x1.2.2.2.1
      have r3 : ∀ u : Under wr, u.x.cell? ⟨g2, k * 5 + 3, none⟩ = some (.int .i64 l[k].c.n) := fun u => (u.h.cell l2).trans x2.2.2.2.1
      have q4 : ∀ u : Under wr, u.x.cell? ⟨g1, k * 5 + 4, none⟩ = some (.string l[k].c.t) := fun u => (u.h.cell l1).trans x1.2.2.2.2
      have r4 : ∀ u : Under wr, u.x.cell? ⟨g2, k * 5 + 4, none⟩ = some (.string l[k].c.t) := fun u => (u.h.cell l2).trans x2.2.2.2.2
      have hnu : Nonempty (Under wr) := ⟨⟨wr, Below.refl _ _⟩⟩
      clear x1 x2
      go_wp2_with fail
      refine wp_region_under (by kernel_rfl) (by kernel_rfl) ?_
      repeat (go_big_quiet_step ((go_at_call 122; exact calls_under _ (eqUpdate_same l[k].op l[k].p l[k].c.k l[k].c.n l[k].c.t _))))
      refine wpQuiet_nil ?_
      rintro _ ⟨u, rfl⟩
      go_wp2_with fail
      go_roundw
      case rel => exact ⟨k + 1, by omega, by go_num, hbel.trans (u.h.mono hbel.size)⟩
      case measure => simp [intOf]; omega
    · have hlt2 : ¬ (k : Int) < (l.length : Int) := by omega
      go_wp2_with fail
      go_ret
      exact ⟨rfl, hbel⟩

end Go.Proofs.YtbplmgmajmomcaaGreatDoor.Up

/- Whether updates are right: what the program and the specification answer. -/
namespace Go.Proofs.YtbplmgmajmomcaaGreatDoor.Up
open Go.RowKit
set_option linter.unusedVariables false

def okT (t : Trm) : Bool := updB t.op t.p t.c
/-- Are updates right. -/
def updsB (l : List Trm) : Bool := decide (1 ≤ l.length ∧ l.length ≤ 4) && l.all okT
set_option maxRecDepth 4000 in
set_option maxHeartbeats 1000000 in
theorem isWrongUpdate_any (t : Trm) (w : World) (hs : szT t) :
    Calls Tryz.prog 176 #[.agg #[.int .i64 t.op, .string t.p, .int .i64 t.c.k, .int .i64 t.c.n, .string t.c.t]] w fun e w' => e = .returned (.bool (!(okT t))) ∧ Below w.heap.size w w' := by
  have X0 := Box5.start w (.int .i64 t.op) (.string t.p) (.int .i64 t.c.k) (.int .i64 t.c.n) (.string t.c.t) 189
  have HC : Hid (∀ W : World, Calls _ _ _ W _) := fun W => updateOK_any t.op t.p t.c.k t.c.n t.c.t W hs.1 hs.2
  have ho : updB t.op t.p ⟨t.c.k, t.c.n, t.c.t⟩ = okT t := rfl
  rw [ho] at HC
  clear hs ho
  go_enter Tryz.func176, Tryz.ntmps176
  go_wp2_with fail
  refine (HC.out _).mono ?_
  rintro e w1 ⟨rfl, hb⟩
  have hbw := (X0.step hb).bel
  clear hb
  go_wp2_with fail
  go_ret
  exact ⟨ret_bool (by simp), hbw⟩

set_option maxRecDepth 4000 in
set_option maxHeartbeats 1000000 in
theorem idxWrongT_any (q : Option Addr) (qc : Nat) (l : List Trm) (w : World) (hr : RowT w q l) (hl : l.length ≤ 1048576) (hs : ∀ v ∈ l, szT v) :
    Calls Tryz.prog 223 #[.slice q l.length qc, .func (.func 176) #[] #[]] w fun e w' => (∃ i : Int, e = .returned (.int .i64 i) ∧ decide (0 ≤ i) = !(l.all okT)) ∧ Below w.heap.size w w' := by
  have HR : Hid (RowT _ _ _) := hr
  have HS : Hid _ := hs
  clear hr hs
  go_enter Tryz.func223, Tryz.ntmps223
  go_wp2_with fail
  go_loopw [8] (fun i wr => ∃ k : Nat, k ≤ l.length ∧ i = .int .i64 k ∧ (∀ u ∈ l.take k, okT u = true) ∧ Below w.heap.size w wr) (fun i _ => l.length - (intOf i).toNat)
  case atStart => exact ⟨0, Nat.zero_le _, rfl, fun u hu => by simp at hu, Below.refl _ _⟩
  case round =>
    obtain ⟨k, hk, rfl, hall, hbel⟩ := hrel
    have HA : Hid _ := hall
    clear hall
    by_cases hlt : k < l.length
    · rcases HR.out.next hbel with h0 | ⟨g, rfl, R⟩
      · subst h0; simp at hlt
      obtain ⟨x0, x1, x2, x3, x4⟩ := R.cells k hlt
      have hlt2 : (k : Int) < (l.length : Int) := by omega
      have HK0 : ∀ W : World, Below wr.heap.size wr W → Calls Tryz.prog 176 #[.agg #[.int .i64 l[k].op, .string l[k].p, .int .i64 l[k].c.k, .int .i64 l[k].c.n, .string l[k].c.t]] W fun e w' => e = .returned (.bool (!(okT l[k]))) ∧ Below W.heap.size W w' := fun W _ => isWrongUpdate_any l[k] W (HS.out l[k] (List.getElem_mem _))
      cases hP : okT l[k]
      · rw [hP] at HK0
        have HK : Hid _ := HK0
        have hal : l.all okT = false := by
          rw [Bool.eq_false_iff]; intro hh
          have := List.all_eq_true.mp hh l[k] (List.getElem_mem _)
          rw [hP] at this; cases this
        have HL : Hid _ := hal
        clear R hP HK0 hal
        go_wp2_with fail
        refine (HK.out _ (Below.refl _ _)).mono ?_
        rintro e w1 ⟨rfl, hb⟩
        have hb1 := hbel.trans (hb.mono hbel.size)
        clear hb
        go_wp2_with fail
        go_ret
        exact ⟨⟨k, rfl, by rw [HL.out]; exact decide_eq_true (by omega)⟩, hb1⟩
      · rw [hP] at HK0
        have HK : Hid _ := HK0
        have HPK : Hid _ := hP
        clear R hP HK0
        go_wp2_with fail
        refine (HK.out _ (Below.refl _ _)).mono ?_
        rintro e w1 ⟨rfl, hb⟩
        have hb1 := hbel.trans (hb.mono hbel.size)
        clear hb
        go_wp2_with fail
        go_roundw
        case rel =>
          refine ⟨k + 1, by omega, by go_num, ?_, hb1⟩
          intro u hu
          rw [List.take_succ_eq_append_getElem hlt] at hu
          rcases List.mem_append.mp hu with h | h
          · exact HA.out u h
          · simp at h; subst h; exact HPK.out
        case measure => simp [intOf]; omega
    · have hlt2 : ¬ (k : Int) < (l.length : Int) := by omega
      have hal : l.all okT = true := List.all_eq_true.mpr (fun u hu => HA.out u (by rw [List.take_of_length_le (by omega)]; exact hu))
      have HL : Hid _ := hal
      clear hal
      go_wp2_with fail
      go_ret
      exact ⟨⟨-1, rfl, by rw [HL.out]; rfl⟩, hbel⟩
set_option maxRecDepth 4000 in
set_option maxHeartbeats 1000000 in
theorem anyWrongT_any (q : Option Addr) (qc : Nat) (l : List Trm) (w : World) (hr : RowT w q l) (hl : l.length ≤ 1048576) (hs : ∀ v ∈ l, szT v) :
    Calls Tryz.prog 175 #[.slice q l.length qc, .func (.func 176) #[] #[]] w fun e w' => e = .returned (.bool (!(l.all okT))) ∧ Below w.heap.size w w' := by
  have HI : Hid (Calls _ _ _ _ _) := idxWrongT_any q qc l w hr hl hs
  clear hr hs
  go_enter Tryz.func175, Tryz.ntmps175
  go_wp2_with fail
  refine HI.out.mono ?_
  rintro e w1 ⟨⟨i, rfl, hi⟩, hb⟩
  have HJ : Hid _ := hi
  clear hi HI
  go_wp2_with fail
  go_ret
  exact ⟨ret_bool HJ.out, hb⟩


set_option maxRecDepth 4000 in
set_option maxHeartbeats 1000000 in
theorem updatesOK_any (q : Option Addr) (qc : Nat) (l : List Trm) (w : World) (hr : RowT w q l) (hl : l.length ≤ 1048576) (hs : ∀ v ∈ l, szT v) :
    Calls Tryz.prog 117 #[.slice q l.length qc] w fun e w' => e = .returned (.bool (updsB l)) ∧ Below w.heap.size w w' := by
  have HC : Hid (Calls _ _ _ _ _) := anyWrongT_any q qc l w hr hl hs
  clear hr hs
  unfold updsB
  obtain ⟨b, hb⟩ : ∃ b, b = l.all okT := ⟨_, rfl⟩
  rw [← hb] at HC ⊢
  clear hb
  by_cases h1 : 1 ≤ l.length
  · have a1 : (1 : Int) ≤ (l.length : Int) := by omega
    by_cases h2 : l.length ≤ 4
    · have a2 : (l.length : Int) ≤ 4 := by omega
      rw [decide_eq_true ⟨h1, h2⟩, Bool.true_and]
      clear h1 h2
      go_enter Tryz.func117, Tryz.ntmps117
      go_wp2_with fail
      refine HC.out.mono ?_
      rintro e w1 ⟨rfl, hb⟩
      go_wp2_with fail
      go_ret
      exact ⟨by simp, hb⟩
    · have a2 : ¬ (l.length : Int) ≤ 4 := by omega
      rw [decide_eq_false (fun h => h2 h.2), Bool.false_and]
      clear h1 h2
      go_enter Tryz.func117, Tryz.ntmps117
      go_wp2_with fail
      go_ret
      exact ⟨rfl, Below.refl _ _⟩
  · have a1 : ¬ (1 : Int) ≤ (l.length : Int) := by omega
    rw [decide_eq_false (fun h => h1 h.1), Bool.false_and]
    clear h1
    go_enter Tryz.func117, Tryz.ntmps117
    go_wp2_with fail
    go_ret
    exact ⟨rfl, Below.refl _ _⟩
set_option maxRecDepth 4000 in
set_option maxHeartbeats 1000000 in
theorem l02Updates_any (q : Option Addr) (qc : Nat) (l : List Trm) (w : World) (hr : RowT w q l) (hl : l.length ≤ 1048576) (hs : ∀ v ∈ l, szT v) :
    Calls Tryz.prog 57 #[.slice q l.length qc] w fun e w' => e = .returned (.bool (updsB l)) ∧ Below w.heap.size w w' := by
  have HR : Hid (RowT _ _ _) := hr
  have HS : Hid (∀ v ∈ l, szT v) := hs
  clear hr hs
  obtain ⟨B, hB⟩ : ∃ B, B = updsB l := ⟨_, rfl⟩
  rw [← hB]
  have HB : Hid (B = updsB l) := hB
  clear hB
  go_enter Tryz.func57, Tryz.ntmps57
  go_wp2_with fail
  go_loopw [3] (fun i wr => ∃ k : Nat, k ≤ l.length ∧ i = .int .i64 k ∧ (∀ u ∈ l.take k, okT u = true) ∧ Below w.heap.size w wr) (fun i _ => l.length - (intOf i).toNat)
  case atStart => exact ⟨0, Nat.zero_le _, rfl, fun u hu => by simp at hu, Below.refl _ _⟩
  case round =>
    obtain ⟨k, hk, rfl, hall, hbel⟩ := hrel
    have HA : Hid _ := hall
    clear hall
    by_cases hlt : k < l.length
    · rcases HR.out.next hbel with h0 | ⟨g, rfl, R⟩
      · subst h0; simp at hlt
      obtain ⟨x0, x1, x2, x3, x4⟩ := R.cells k hlt
      have hg := R.lt
      have hlt2 : (k : Int) < (l.length : Int) := by omega
      have hsz := HS.out l[k] (List.getElem_mem _)
      have HK0 : ∀ W : World, Calls Tryz.prog 108 #[.agg #[.int .i64 l[k].op, .string l[k].p, .int .i64 l[k].c.k, .int .i64 l[k].c.n, .string l[k].c.t]] W fun e w' => e = .returned (.bool (okT l[k])) ∧ Below W.heap.size W w' := fun W => specUpd_any l[k].op l[k].p l[k].c.k l[k].c.n l[k].c.t W hsz.1 hsz.2
      cases hP : okT l[k]
      · rw [hP] at HK0
        have HK : Hid (∀ W : World, Calls _ _ _ W _) := HK0
        have hal : B = false := by
          rw [HB.out]; unfold updsB
          have : l.all okT = false := by
            rw [Bool.eq_false_iff]; intro hh
            have := List.all_eq_true.mp hh l[k] (List.getElem_mem _)
            rw [hP] at this; cases this
          rw [this, Bool.and_false]
        have HL : Hid _ := hal
        clear R hP HK0 hal
        go_wp2_with fail
        refine (HK.out _).mono ?_
        rintro e w1 ⟨rfl, hb⟩
        have hb1 := hbel.trans (hb.mono hbel.size)
        clear hb
        go_wp2_with fail
        go_ret
        exact ⟨by rw [HL.out]; rfl, hb1⟩
      · rw [hP] at HK0
        have HK : Hid (∀ W : World, Calls _ _ _ W _) := HK0
        have HPK : Hid _ := hP
        clear R hP HK0
        go_wp2_with fail
        refine (HK.out _).mono ?_
        rintro e w1 ⟨rfl, hb⟩
        have hb1 := hbel.trans (hb.mono hbel.size)
        clear hb
        go_wp2_with fail
        go_roundw
        case rel =>
          refine ⟨k + 1, by omega, by go_num, ?_, hb1⟩
          intro u hu
          rw [List.take_succ_eq_append_getElem hlt] at hu
          rcases List.mem_append.mp hu with h | h
          · exact HA.out u h
          · simp at h; subst h; exact HPK.out
        case measure => simp [intOf]; omega
    · have hlt2 : ¬ (k : Int) < (l.length : Int) := by omega
      have hal : l.all okT = true := List.all_eq_true.mpr (fun u hu => HA.out u (by rw [List.take_of_length_le (by omega)]; exact hu))
      have HL : Hid (B = decide (1 ≤ (l.length : Int) ∧ (l.length : Int) ≤ 4)) := by
        show B = _
        rw [HB.out]; unfold updsB
        rw [hal, Bool.and_true]
        by_cases h : 1 ≤ l.length ∧ l.length ≤ 4
        · rw [decide_eq_true h, decide_eq_true (by omega)]
        · rw [decide_eq_false h, decide_eq_false (by omega)]
      have HI : Hid (∀ W : World, Calls _ _ _ W _) := fun W => l01In_any (l.length : Int) 1 4 W
      clear hal
      go_wp2_with fail
      refine (HI.out _).mono ?_
      rintro e w1 ⟨rfl, rfl⟩
      go_wp2_with fail
      go_ret
      exact ⟨by rw [HL.out, Bool.decide_and]; rfl, hbel⟩

end Go.Proofs.YtbplmgmajmomcaaGreatDoor.Up
