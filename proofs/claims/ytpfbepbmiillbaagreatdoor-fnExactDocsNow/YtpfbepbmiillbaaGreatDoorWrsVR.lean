/- Rows of writes: what the laws' own helpers on them answer. -/
import Derived.Test.YtpfbepbmiillbaaGreatDoorChgVR
namespace Go.Proofs.YtpfbepbmiillbaaGreatDoor.Tx
open Go.RowKit Tr Co Ce
set_option linter.unusedVariables false

theorem infoWs : (Tryz.prog.info? 78).map (fun i => (i.zero, i.size, i.bytes)) = some (some (.agg #[.string em, .int .i64 0, .bool false, .int .i64 0, .int .i64 0, .string em]), 6, 64) := by kernel_rfl
def zWs : Wrt := ⟨em, 0, false, ⟨0, 0, em⟩⟩
def rowWs (t : Wrt) : List Value := [.string t.coll, .int .i64 t.id, .bool t.gone, .int .i64 t.doc.k, .int .i64 t.doc.n, .string t.doc.t]
def flatWs (l : List Wrt) : List Value := l.flatMap rowWs
theorem flatWs_cons (v : Wrt) (l : List Wrt) : flatWs (v :: l) = .string v.coll :: .int .i64 v.id :: .bool v.gone :: .int .i64 v.doc.k :: .int .i64 v.doc.n :: .string v.doc.t :: flatWs l := rfl
theorem flatWs_len (l : List Wrt) : (flatWs l).length = l.length * 6 := by
  induction l with
  | nil => rfl
  | cons v l ih => rw [flatWs_cons]; simp [ih]; omega
theorem flatWs_get : ∀ (l : List Wrt) (i : Nat) (h : i < l.length), (flatWs l)[i * 6]? = some (.string l[i].coll) ∧ (flatWs l)[i * 6 + 1]? = some (.int .i64 l[i].id) ∧ (flatWs l)[i * 6 + 2]? = some (.bool l[i].gone) ∧ (flatWs l)[i * 6 + 3]? = some (.int .i64 l[i].doc.k) ∧ (flatWs l)[i * 6 + 4]? = some (.int .i64 l[i].doc.n) ∧ (flatWs l)[i * 6 + 5]? = some (.string l[i].doc.t)
  | v :: l, 0, _ => ⟨rfl, rfl, rfl, rfl, rfl, rfl⟩
  | v :: l, i + 1, h => by
    have ih := flatWs_get l i (by simpa using h)
    have e : flatWs (v :: l) = rowWs v ++ flatWs l := by unfold flatWs; simp
    rw [e, show (i + 1) * 6 = i * 6 + 6 by omega]
    have hl : (rowWs v).length = 6 := rfl
    refine ⟨?_, ?_, ?_, ?_, ?_, ?_⟩
    · rw [List.getElem?_append_right (by omega), hl]; simpa using ih.1
    · rw [List.getElem?_append_right (by omega), hl, show i * 6 + 6 + 1 - 6 = i * 6 + 1 by omega]; simpa using ih.2.1
    · rw [List.getElem?_append_right (by omega), hl, show i * 6 + 6 + 2 - 6 = i * 6 + 2 by omega]; simpa using ih.2.2.1
    · rw [List.getElem?_append_right (by omega), hl, show i * 6 + 6 + 3 - 6 = i * 6 + 3 by omega]; simpa using ih.2.2.2.1
    · rw [List.getElem?_append_right (by omega), hl, show i * 6 + 6 + 4 - 6 = i * 6 + 4 by omega]; simpa using ih.2.2.2.2.1
    · rw [List.getElem?_append_right (by omega), hl, show i * 6 + 6 + 5 - 6 = i * 6 + 5 by omega]; simpa using ih.2.2.2.2.2
theorem flatWs_set : ∀ (l : List Wrt) (k : Nat) (v : Wrt), k < l.length → ((((((flatWs l).set (k * 6) (.string v.coll)).set (k * 6 + 1) (.int .i64 v.id)).set (k * 6 + 2) (.bool v.gone)).set (k * 6 + 3) (.int .i64 v.doc.k)).set (k * 6 + 4) (.int .i64 v.doc.n)).set (k * 6 + 5) (.string v.doc.t) = flatWs (l.set k v)
  | [], k, v, h => by simp at h
  | u :: l, 0, v, _ => rfl
  | u :: l, k + 1, v, h => by
    rw [List.set_cons_succ, flatWs_cons, flatWs_cons, ← flatWs_set l k v (by simpa using h)]
    rw [show (k + 1) * 6 = k * 6 + 1 + 1 + 1 + 1 + 1 + 1 by omega]
    rfl
/-- A row of writes that stands at a block's head. -/
structure ReadWs (w : World) (g : Nat) (l : List Wrt) : Prop where
  lt : g < w.heap.size
  cells : ∀ i (h : i < l.length), w.cell? ⟨g, i * 6, none⟩ = some (.string l[i].coll) ∧ w.cell? ⟨g, i * 6 + 1, none⟩ = some (.int .i64 l[i].id) ∧ w.cell? ⟨g, i * 6 + 2, none⟩ = some (.bool l[i].gone) ∧ w.cell? ⟨g, i * 6 + 3, none⟩ = some (.int .i64 l[i].doc.k) ∧ w.cell? ⟨g, i * 6 + 4, none⟩ = some (.int .i64 l[i].doc.n) ∧ w.cell? ⟨g, i * 6 + 5, none⟩ = some (.string l[i].doc.t)
theorem ReadWs.step {w w' : World} {g base : Nat} {l : List Wrt} (h : ReadWs w g l) (hb : Below base w w') (hg : g < base) : ReadWs w' g l :=
  ⟨Nat.lt_of_lt_of_le h.lt hb.size, fun i hi => ⟨(hb.cell hg).trans (h.cells i hi).1, (hb.cell hg).trans (h.cells i hi).2.1, (hb.cell hg).trans (h.cells i hi).2.2.1, (hb.cell hg).trans (h.cells i hi).2.2.2.1, (hb.cell hg).trans (h.cells i hi).2.2.2.2.1, (hb.cell hg).trans (h.cells i hi).2.2.2.2.2⟩⟩
theorem ReadWs.next {w w' : World} {g : Nat} {l : List Wrt} (h : ReadWs w g l) (hb : Below w.heap.size w w') : ReadWs w' g l := h.step hb h.lt
theorem ReadWs.grown {w w' : World} {g : Nat} {l : List Wrt} {row : Option Nat} (h : ReadWs w g l) (hg : w.grownBy w' row) (hne : some g ≠ row) : ReadWs w' g l :=
  ⟨Nat.lt_of_lt_of_le h.lt hg.size, fun i hi => ⟨(World.cell?_of_block (hg.block g h.lt hne)).trans (h.cells i hi).1, (World.cell?_of_block (hg.block g h.lt hne)).trans (h.cells i hi).2.1, (World.cell?_of_block (hg.block g h.lt hne)).trans (h.cells i hi).2.2.1, (World.cell?_of_block (hg.block g h.lt hne)).trans (h.cells i hi).2.2.2.1, (World.cell?_of_block (hg.block g h.lt hne)).trans (h.cells i hi).2.2.2.2.1, (World.cell?_of_block (hg.block g h.lt hne)).trans (h.cells i hi).2.2.2.2.2⟩⟩
theorem ReadWs.of_own {w : World} {base g cap : Nat} {l : List Wrt} (h : w.ownsRow base 78 6 (.slice (some ⟨g, 0, none⟩) l.length cap) l.length (flatWs l)) : ReadWs w g l :=
  ⟨(h.lt g rfl).2, fun i hi => ⟨owns_cell h _ _ (flatWs_get l i hi).1, owns_cell h _ _ (flatWs_get l i hi).2.1, owns_cell h _ _ (flatWs_get l i hi).2.2.1, owns_cell h _ _ (flatWs_get l i hi).2.2.2.1, owns_cell h _ _ (flatWs_get l i hi).2.2.2.2.1, owns_cell h _ _ (flatWs_get l i hi).2.2.2.2.2⟩⟩
/-- Entries that came in. -/
def InWs (w : World) (a : Option Addr) (l : List Wrt) : Prop := l.length = 0 ∨ ∃ b off, a = some ⟨b, off, none⟩ ∧ b < w.heap.size ∧ ∀ i (h : i < l.length), w.cell? ⟨b, off + i * 6, none⟩ = some (.string l[i].coll) ∧ w.cell? ⟨b, off + i * 6 + 1, none⟩ = some (.int .i64 l[i].id) ∧ w.cell? ⟨b, off + i * 6 + 2, none⟩ = some (.bool l[i].gone) ∧ w.cell? ⟨b, off + i * 6 + 3, none⟩ = some (.int .i64 l[i].doc.k) ∧ w.cell? ⟨b, off + i * 6 + 4, none⟩ = some (.int .i64 l[i].doc.n) ∧ w.cell? ⟨b, off + i * 6 + 5, none⟩ = some (.string l[i].doc.t)
theorem InWs.step {w w' : World} {a : Option Addr} {l : List Wrt} (h : InWs w a l) (hb : Below w.heap.size w w') : InWs w' a l := by
  rcases h with h | ⟨b, off, ha, hlt, hc⟩
  · exact .inl h
  · exact .inr ⟨b, off, ha, Nat.lt_of_lt_of_le hlt hb.size, fun i hi => ⟨(hb.cell hlt).trans (hc i hi).1, (hb.cell hlt).trans (hc i hi).2.1, (hb.cell hlt).trans (hc i hi).2.2.1, (hb.cell hlt).trans (hc i hi).2.2.2.1, (hb.cell hlt).trans (hc i hi).2.2.2.2.1, (hb.cell hlt).trans (hc i hi).2.2.2.2.2⟩⟩
theorem ReadWs.inWs {w : World} {g : Nat} {l : List Wrt} (h : ReadWs w g l) : InWs w (some ⟨g, 0, none⟩) l :=
  .inr ⟨g, 0, rfl, h.lt, fun i hi => by rw [Nat.zero_add]; exact h.cells i hi⟩
theorem InWs.grown {w w' : World} {a : Option Addr} {l : List Wrt} {row : Option Nat} (h : InWs w a l) (hg : w.grownBy w' row) (hne : ∀ b off, a = some ⟨b, off, none⟩ → some b ≠ row) : InWs w' a l := by
  rcases h with h | ⟨b, off, ha, hlt, hc⟩
  · exact .inl h
  · have hb := hg.block b hlt (hne b off ha)
    exact .inr ⟨b, off, ha, Nat.lt_of_lt_of_le hlt hg.size, fun i hi => ⟨(World.cell?_of_block hb).trans (hc i hi).1, (World.cell?_of_block hb).trans (hc i hi).2.1, (World.cell?_of_block hb).trans (hc i hi).2.2.1, (World.cell?_of_block hb).trans (hc i hi).2.2.2.1, (World.cell?_of_block hb).trans (hc i hi).2.2.2.2.1, (World.cell?_of_block hb).trans (hc i hi).2.2.2.2.2⟩⟩
/-- Entries that their owner may write, all of it from block number base on. -/
def OwnWs (w : World) (base : Nat) (v : Value) (l : List Wrt) : Prop := w.ownsRow base 78 6 v l.length (flatWs l)
theorem OwnWs.form {w : World} {base : Nat} {v : Value} {l : List Wrt} (h : OwnWs w base v l) : (v = .slice none 0 0 ∧ l = []) ∨ ∃ g cap, v = .slice (some ⟨g, 0, none⟩) l.length cap ∧ base ≤ g ∧ g < w.heap.size := by
  have hlt := World.ownsRow.lt h
  obtain ⟨h1, h2⟩ := h
  rcases h2 with ⟨h2, h3⟩ | ⟨g, cap, cur, hv, hg, hh, r⟩
  · exact .inl ⟨h2, List.length_eq_zero_iff.1 h3⟩
  · exact .inr ⟨g, cap, hv, hg, (hlt g (by rw [hv]; rfl)).2⟩
theorem OwnWs.inWs {w : World} {base : Nat} {v : Value} {l : List Wrt} (h : OwnWs w base v l) : ∃ p cap, v = .slice p l.length cap ∧ InWs w p l := by
  rcases h.form with ⟨rfl, rfl⟩ | ⟨g, cap, rfl, _, _⟩
  · exact ⟨none, 0, rfl, .inl rfl⟩
  · exact ⟨_, cap, rfl, (ReadWs.of_own h).inWs⟩
/-- The first k writes, and zero ones behind them. -/
def mixWs (l : List Wrt) (k : Nat) : List Wrt := l.take k ++ List.replicate (l.length - k) zWs
theorem mixWs_len (l : List Wrt) (k : Nat) (h : k ≤ l.length) : (mixWs l k).length = l.length := by unfold mixWs; simp; omega
theorem mixWs_full (l : List Wrt) (k : Nat) (h : l.length ≤ k) : mixWs l k = l := by
  unfold mixWs; rw [List.take_of_length_le h, Nat.sub_eq_zero_of_le h]; simp
theorem mixWs_set (l : List Wrt) (k : Nat) (h : k < l.length) : (mixWs l k).set k l[k] = mixWs l (k + 1) := by
  unfold mixWs
  have hl : (l.take k).length = k := by simp; omega
  rw [List.take_succ_eq_append_getElem h, List.append_assoc, List.set_append_right _ _ (by omega)]
  congr 1
  rw [hl, Nat.sub_self]
  obtain ⟨m, hm⟩ : ∃ m, l.length - k = m + 1 := ⟨l.length - k - 1, by omega⟩
  rw [hm, List.replicate_succ, show l.length - (k + 1) = m by omega]
  rfl
theorem made_zeroWs (n : Nat) : (madeCells (Value.agg #[.string em, .int .i64 0, .bool false, .int .i64 0, .int .i64 0, .string em]).cells (n * 6)).toList = flatWs (List.replicate n zWs) := by
  apply List.ext_getElem?
  intro j
  by_cases hj : j < n * 6
  · have hg := flatWs_get (List.replicate n zWs) (j / 6) (by simp; omega)
    simp only [List.getElem_replicate] at hg
    have hc : (Value.agg #[.string em, .int .i64 0, .bool false, .int .i64 0, .int .i64 0, .string em]).cells = #[.string em, .int .i64 0, .bool false, .int .i64 0, .int .i64 0, .string em] := by rfl
    rw [hc]
    have h3 : j % 6 = 0 ∨ j % 6 = 1 ∨ j % 6 = 2 ∨ j % 6 = 3 ∨ j % 6 = 4 ∨ j % 6 = 5 := by omega
    rcases h3 with h3 | h3 | h3 | h3 | h3 | h3
    · have e : j = j / 6 * 6 := by omega
      rw [show (flatWs (List.replicate n zWs))[j]? = (flatWs (List.replicate n zWs))[j / 6 * 6]? by rw [← e], hg.1]
      simp [madeCells, hj, h3, zWs]
    · have e : j = j / 6 * 6 + 1 := by omega
      rw [show (flatWs (List.replicate n zWs))[j]? = (flatWs (List.replicate n zWs))[j / 6 * 6 + 1]? by rw [← e], hg.2.1]
      simp [madeCells, hj, h3, zWs]
    · have e : j = j / 6 * 6 + 2 := by omega
      rw [show (flatWs (List.replicate n zWs))[j]? = (flatWs (List.replicate n zWs))[j / 6 * 6 + 2]? by rw [← e], hg.2.2.1]
      simp [madeCells, hj, h3, zWs]
    · have e : j = j / 6 * 6 + 3 := by omega
      rw [show (flatWs (List.replicate n zWs))[j]? = (flatWs (List.replicate n zWs))[j / 6 * 6 + 3]? by rw [← e], hg.2.2.2.1]
      simp [madeCells, hj, h3, zWs]
    · have e : j = j / 6 * 6 + 4 := by omega
      rw [show (flatWs (List.replicate n zWs))[j]? = (flatWs (List.replicate n zWs))[j / 6 * 6 + 4]? by rw [← e], hg.2.2.2.2.1]
      simp [madeCells, hj, h3, zWs]
    · have e : j = j / 6 * 6 + 5 := by omega
      rw [show (flatWs (List.replicate n zWs))[j]? = (flatWs (List.replicate n zWs))[j / 6 * 6 + 5]? by rw [← e], hg.2.2.2.2.2]
      simp [madeCells, hj, h3, zWs]
  · rw [List.getElem?_eq_none (by simp [madeCells]; omega), List.getElem?_eq_none (by rw [flatWs_len]; simp; omega)]

def szWs (t : Wrt) : Prop := SzW t
def maxWs (t : Wrt) : Prop := MaxW t
theorem take_allWs (p : Wrt → Prop) (l : List Wrt) (k : Nat) (h : k < l.length) (h1 : ∀ v ∈ l.take k, p v) (h2 : p l[k]) : ∀ v ∈ l.take (k + 1), p v := by
  intro v hv
  rw [List.take_succ_eq_append_getElem h] at hv
  rcases List.mem_append.mp hv with hv | hv
  · exact h1 v hv
  · rw [List.mem_singleton.mp hv]; exact h2

set_option maxRecDepth 4000 in
set_option maxHeartbeats 1000000 in
theorem toWriteS_any (a : Option Addr) (cap : Nat) (l : List Wrt) (w : World) (hin : InWs w a l) (hlen : l.length ≤ 1048576) :
    Calls Tryz.prog 105 #[.slice a l.length cap] w fun e w' => (∃ g, e = .returned (.slice (some ⟨g, 0, none⟩) l.length l.length) ∧ OwnWs w' w.heap.size (.slice (some ⟨g, 0, none⟩) l.length l.length) l) ∧ Below w.heap.size w w' := by
  obtain ⟨i0, hi, hz0, hz1, hz2⟩ := info_parts infoWs
  have HI : Hid _ := hin
  clear hin
  go_enter Tryz.func105, Tryz.ntmps105
  go_wp2_with (refine wpList_make_full _ rfl (.tmp 6) (.tmp 6) 73 rfl w.heap.size 78 i0 (.agg #[.string em, .int .i64 0, .bool false, .int .i64 0, .int .i64 0, .string em]) 6 Tryz.underlying73 hi hz0 hz1 .i64 .i64 _ _ l.length rfl rfl rfl rfl (by rw [hz2]; omega) (by unfold maxLen; omega) (Nat.le_refl _) ?_; intro w1 hown1 hgrow1)
  have hb1 : Below w.heap.size w w1 := Below.grown (Below.refl _ _) hgrow1 (Nat.le_refl _) (fun k h => by cases h)
  have hz : w.heap.size < w1.heap.size := (World.ownsRow.lt hown1 w.heap.size rfl).2
  rw [made_zeroWs, show List.replicate l.length zWs = mixWs l 0 from by simp [mixWs]] at hown1
  clear hgrow1
  go_loopw [4] (fun i wr => ∃ k : Nat, k ≤ l.length ∧ i = .int .i64 k ∧ wr.ownsRow w.heap.size 78 6 (.slice (some ⟨w.heap.size, 0, none⟩) l.length l.length) l.length (flatWs (mixWs l k)) ∧ Below w.heap.size w wr) (fun i _ => l.length - (intOf i).toNat)
  case atStart => exact ⟨0, Nat.zero_le _, rfl, hown1, hb1⟩
  case round =>
    obtain ⟨k, hk, rfl, hown, hbel⟩ := hrel
    clear hown1 hb1 hz
    by_cases hlt : k < l.length
    · rcases HI.out with h0 | ⟨b, off, rfl, hbl, hc⟩
      · omega
      · have hlt2 : (k : Int) < (l.length : Int) := by omega
        have x0 := (hbel.cell hbl).trans (hc k hlt).1
        have x1 := (hbel.cell hbl).trans (hc k hlt).2.1
        have x2 := (hbel.cell hbl).trans (hc k hlt).2.2.1
        have x3 := (hbel.cell hbl).trans (hc k hlt).2.2.2.1
        have x4 := (hbel.cell hbl).trans (hc k hlt).2.2.2.2.1
        have x5 := (hbel.cell hbl).trans (hc k hlt).2.2.2.2.2
        have hz := hbel.size
        have HO : Hid (World.ownsRow _ _ _ _ _ _ _) := hown
        have HB : Hid _ := hbel
        have hgl : w.heap.size < wr.heap.size := (hown.lt _ rfl).2
        clear hc hown hbel
        go_wp2_with fail
        refine (toWrite_any l[k] _).mono ?_
        rintro e w2 ⟨rfl, hb2⟩
        have hown2 := owns_below HO.out hb2
        have hm := mixWs_len l k hk
        have hg := flatWs_get (mixWs l k) k (by omega)
        obtain ⟨z0, y0⟩ : ∃ u, w2.cell? ⟨w.heap.size, k * 6, none⟩ = some u := ⟨_, owns_cell hown2 _ _ hg.1⟩
        obtain ⟨z1, y1⟩ : ∃ u, w2.cell? ⟨w.heap.size, k * 6 + 1, none⟩ = some u := ⟨_, owns_cell hown2 _ _ hg.2.1⟩
        obtain ⟨z2, y2⟩ : ∃ u, w2.cell? ⟨w.heap.size, k * 6 + 2, none⟩ = some u := ⟨_, owns_cell hown2 _ _ hg.2.2.1⟩
        obtain ⟨z3, y3⟩ : ∃ u, w2.cell? ⟨w.heap.size, k * 6 + 3, none⟩ = some u := ⟨_, owns_cell hown2 _ _ hg.2.2.2.1⟩
        obtain ⟨z4, y4⟩ : ∃ u, w2.cell? ⟨w.heap.size, k * 6 + 4, none⟩ = some u := ⟨_, owns_cell hown2 _ _ hg.2.2.2.2.1⟩
        obtain ⟨z5, y5⟩ : ∃ u, w2.cell? ⟨w.heap.size, k * 6 + 5, none⟩ = some u := ⟨_, owns_cell hown2 _ _ hg.2.2.2.2.2⟩
        have f0 := World.ownsRow.frozenAt hown2 (k * 6)
        have f1 := World.ownsRow.frozenAt hown2 (k * 6 + 1)
        have f2 := World.ownsRow.frozenAt hown2 (k * 6 + 2)
        have f3 := World.ownsRow.frozenAt hown2 (k * 6 + 3)
        have f4 := World.ownsRow.frozenAt hown2 (k * 6 + 4)
        have f5 := World.ownsRow.frozenAt hown2 (k * 6 + 5)
        have hst := (World.ownsRow.stored (World.ownsRow.stored (World.ownsRow.stored (World.ownsRow.stored (World.ownsRow.stored (World.ownsRow.stored hown2 (k * 6) (.string l[k].coll)).1 (k * 6 + 1) (.int .i64 l[k].id)).1 (k * 6 + 2) (.bool l[k].gone)).1 (k * 6 + 3) (.int .i64 l[k].doc.k)).1 (k * 6 + 4) (.int .i64 l[k].doc.n)).1 (k * 6 + 5) (.string l[k].doc.t)).1
        rw [flatWs_set _ _ _ (by omega), mixWs_set l k hlt] at hst
        have HS : Hid (World.ownsRow _ _ _ _ _ _ _) := hst
        have HB2 : Hid _ := HB.out.trans (hb2.mono HB.out.size)
        have hz2 := hb2.size
        clear hst hown2 hg hm hb2
        go_wp2_with fail
        go_roundw
        case rel => exact ⟨k + 1, by omega, by go_num, HS.out, (((((HB2.out.setCell (Nat.le_refl _) _).setCell (Nat.le_refl _) _).setCell (Nat.le_refl _) _).setCell (Nat.le_refl _) _).setCell (Nat.le_refl _) _).setCell (Nat.le_refl _) _⟩
        case measure => simp [intOf]; omega
    · have hlt2 : ¬ (k : Int) < (l.length : Int) := by omega
      go_wp2_with fail
      go_ret
      rw [mixWs_full l k (by omega)] at hown
      exact ⟨⟨w.heap.size, rfl, hown⟩, hbel⟩

set_option maxRecDepth 4000 in
set_option maxHeartbeats 1000000 in
theorem eqWriteS_same (p1 p2 : Option Addr) (c1 c2 : Nat) (l : List Wrt) (w : World) (h1 : InWs w p1 l) (h2 : InWs w p2 l) (hlen : l.length ≤ 1048576) :
    Calls Tryz.prog 120 #[.slice p1 l.length c1, .slice p2 l.length c2] w fun e w' => e = .returned (.bool true) ∧ Below w.heap.size w w' := by
  have H1 : Hid (InWs _ _ _) := h1
  have H2 : Hid (InWs _ _ _) := h2
  clear h1 h2
  go_enter Tryz.func120, Tryz.ntmps120
  go_wp2_with fail
  go_loopw [5] (fun i wr => ∃ k : Nat, k ≤ l.length ∧ i = .int .i64 k ∧ Below w.heap.size w wr) (fun i _ => l.length - (intOf i).toNat)
  case atStart => exact ⟨0, Nat.zero_le _, rfl, Below.refl _ _⟩
  case round =>
    obtain ⟨k, hk, rfl, hbel⟩ := hrel
    by_cases hlt : k < l.length
    · rcases H1.out.step hbel with h0 | ⟨g1, o1, rfl, l1, x1⟩
      · omega
      rcases H2.out.step hbel with h0 | ⟨g2, o2, rfl, l2, x2⟩
      · omega
      have hk1 : (k : Int) < (l.length : Int) := by omega
      have q0 : ∀ u : Under wr, u.x.cell? ⟨g1, o1 + k * 6, none⟩ = some (.string l[k].coll) := fun u => (u.h.cell l1).trans (x1 k hlt).1
      have r0 : ∀ u : Under wr, u.x.cell? ⟨g2, o2 + k * 6, none⟩ = some (.string l[k].coll) := fun u => (u.h.cell l2).trans (x2 k hlt).1
      have q1 : ∀ u : Under wr, u.x.cell? ⟨g1, o1 + k * 6 + 1, none⟩ = some (.int .i64 l[k].id) := fun u => (u.h.cell l1).trans (x1 k hlt).2.1
      have r1 : ∀ u : Under wr, u.x.cell? ⟨g2, o2 + k * 6 + 1, none⟩ = some (.int .i64 l[k].id) := fun u => (u.h.cell l2).trans (x2 k hlt).2.1
      have q2 : ∀ u : Under wr, u.x.cell? ⟨g1, o1 + k * 6 + 2, none⟩ = some (.bool l[k].gone) := fun u => (u.h.cell l1).trans (x1 k hlt).2.2.1
      have r2 : ∀ u : Under wr, u.x.cell? ⟨g2, o2 + k * 6 + 2, none⟩ = some (.bool l[k].gone) := fun u => (u.h.cell l2).trans (x2 k hlt).2.2.1
      have q3 : ∀ u : Under wr, u.x.cell? ⟨g1, o1 + k * 6 + 3, none⟩ = some (.int .i64 l[k].doc.k) := fun u => (u.h.cell l1).trans (x1 k hlt).2.2.2.1
      have r3 : ∀ u : Under wr, u.x.cell? ⟨g2, o2 + k * 6 + 3, none⟩ = some (.int .i64 l[k].doc.k) := fun u => (u.h.cell l2).trans (x2 k hlt).2.2.2.1
      have q4 : ∀ u : Under wr, u.x.cell? ⟨g1, o1 + k * 6 + 4, none⟩ = some (.int .i64 l[k].doc.n) := fun u => (u.h.cell l1).trans (x1 k hlt).2.2.2.2.1
      have r4 : ∀ u : Under wr, u.x.cell? ⟨g2, o2 + k * 6 + 4, none⟩ = some (.int .i64 l[k].doc.n) := fun u => (u.h.cell l2).trans (x2 k hlt).2.2.2.2.1
      have q5 : ∀ u : Under wr, u.x.cell? ⟨g1, o1 + k * 6 + 5, none⟩ = some (.string l[k].doc.t) := fun u => (u.h.cell l1).trans (x1 k hlt).2.2.2.2.2
      have r5 : ∀ u : Under wr, u.x.cell? ⟨g2, o2 + k * 6 + 5, none⟩ = some (.string l[k].doc.t) := fun u => (u.h.cell l2).trans (x2 k hlt).2.2.2.2.2
      have hnu : Nonempty (Under wr) := ⟨⟨wr, Below.refl _ _⟩⟩
      clear x1 x2
      go_wp2_with fail
      refine wp_region_under (by kernel_rfl) (by kernel_rfl) ?_
      repeat (go_big_quiet_step ((go_at_call 157; exact calls_under _ (eqWrite_same l[k] _))))
      refine wpQuiet_nil ?_
      rintro _ ⟨u, rfl⟩
      go_wp2_with fail
      go_roundw
      case rel => exact ⟨k + 1, by omega, by go_num, hbel.trans (u.h.mono hbel.size)⟩
      case measure => simp [intOf]; omega
    · have hlt2 : ¬ (k : Int) < (l.length : Int) := by omega
      go_wp2_with fail
      go_ret
      exact ⟨rfl, hbel⟩

end Go.Proofs.YtpfbepbmiillbaaGreatDoor.Tx
