/- Rows of versions: what the laws' own helpers on them answer. -/
import Derived.Test.YtncpijfbbgipaaaGreatDoorTrB
import Derived.Test.YtncpijfbbgipaaaGreatDoorLawVal
import Derived.Test.YtncpijfbbgipaaaGreatDoorLawB
namespace Go.Proofs.YtncpijfbbgipaaaGreatDoor.Co
open Go.RowKit Tr
set_option linter.unusedVariables false

theorem infoVr : (Tryz.prog.info? 69).map (fun i => (i.zero, i.size, i.bytes)) = some (some (.agg #[.int .i64 0, .bool false, .int .i64 0, .int .i64 0, .string em]), 5, 48) := by kernel_rfl
/-- A version of a document. -/
structure Ver where
  tm : Int
  gone : Bool
  doc : Val
def zVr : Ver := ⟨0, false, ⟨0, 0, em⟩⟩
def rowVr (t : Ver) : List Value := [.int .i64 t.tm, .bool t.gone, .int .i64 t.doc.k, .int .i64 t.doc.n, .string t.doc.t]
def flatVr (l : List Ver) : List Value := l.flatMap rowVr
theorem flatVr_snoc (l : List Ver) (f : Ver) : flatVr (l ++ [f]) = flatVr l ++ rowVr f := by unfold flatVr; simp
theorem flatVr_app (a b : List Ver) : flatVr (a ++ b) = flatVr a ++ flatVr b := by unfold flatVr; simp
theorem flatVr_cons (v : Ver) (l : List Ver) : flatVr (v :: l) = .int .i64 v.tm :: .bool v.gone :: .int .i64 v.doc.k :: .int .i64 v.doc.n :: .string v.doc.t :: flatVr l := rfl
theorem flatVr_len (l : List Ver) : (flatVr l).length = l.length * 5 := by
  induction l with
  | nil => rfl
  | cons v l ih => rw [flatVr_cons]; simp [ih]; omega
theorem flatVr_get : ∀ (l : List Ver) (i : Nat) (h : i < l.length), (flatVr l)[i * 5]? = some (.int .i64 l[i].tm) ∧ (flatVr l)[i * 5 + 1]? = some (.bool l[i].gone) ∧ (flatVr l)[i * 5 + 2]? = some (.int .i64 l[i].doc.k) ∧ (flatVr l)[i * 5 + 3]? = some (.int .i64 l[i].doc.n) ∧ (flatVr l)[i * 5 + 4]? = some (.string l[i].doc.t)
  | v :: l, 0, _ => ⟨rfl, rfl, rfl, rfl, rfl⟩
  | v :: l, i + 1, h => by
    have ih := flatVr_get l i (by simpa using h)
    have e : flatVr (v :: l) = rowVr v ++ flatVr l := by unfold flatVr; simp
    rw [e, show (i + 1) * 5 = i * 5 + 5 by omega]
    have hl : (rowVr v).length = 5 := rfl
    refine ⟨?_, ?_, ?_, ?_, ?_⟩
    · rw [List.getElem?_append_right (by omega), hl]; simpa using ih.1
    · rw [List.getElem?_append_right (by omega), hl, show i * 5 + 5 + 1 - 5 = i * 5 + 1 by omega]; simpa using ih.2.1
    · rw [List.getElem?_append_right (by omega), hl, show i * 5 + 5 + 2 - 5 = i * 5 + 2 by omega]; simpa using ih.2.2.1
    · rw [List.getElem?_append_right (by omega), hl, show i * 5 + 5 + 3 - 5 = i * 5 + 3 by omega]; simpa using ih.2.2.2.1
    · rw [List.getElem?_append_right (by omega), hl, show i * 5 + 5 + 4 - 5 = i * 5 + 4 by omega]; simpa using ih.2.2.2.2
theorem flatVr_set : ∀ (l : List Ver) (k : Nat) (v : Ver), k < l.length → (((((flatVr l).set (k * 5) (.int .i64 v.tm)).set (k * 5 + 1) (.bool v.gone)).set (k * 5 + 2) (.int .i64 v.doc.k)).set (k * 5 + 3) (.int .i64 v.doc.n)).set (k * 5 + 4) (.string v.doc.t) = flatVr (l.set k v)
  | [], k, v, h => by simp at h
  | u :: l, 0, v, _ => rfl
  | u :: l, k + 1, v, h => by
    rw [List.set_cons_succ, flatVr_cons, flatVr_cons, ← flatVr_set l k v (by simpa using h)]
    rw [show (k + 1) * 5 = k * 5 + 1 + 1 + 1 + 1 + 1 by omega]
    rfl
/-- A row of versions that stands at a block's head. -/
structure ReadVr (w : World) (g : Nat) (l : List Ver) : Prop where
  lt : g < w.heap.size
  cells : ∀ i (h : i < l.length), w.cell? ⟨g, i * 5, none⟩ = some (.int .i64 l[i].tm) ∧ w.cell? ⟨g, i * 5 + 1, none⟩ = some (.bool l[i].gone) ∧ w.cell? ⟨g, i * 5 + 2, none⟩ = some (.int .i64 l[i].doc.k) ∧ w.cell? ⟨g, i * 5 + 3, none⟩ = some (.int .i64 l[i].doc.n) ∧ w.cell? ⟨g, i * 5 + 4, none⟩ = some (.string l[i].doc.t)
theorem ReadVr.step {w w' : World} {g base : Nat} {l : List Ver} (h : ReadVr w g l) (hb : Below base w w') (hg : g < base) : ReadVr w' g l :=
  ⟨Nat.lt_of_lt_of_le h.lt hb.size, fun i hi => ⟨(hb.cell hg).trans (h.cells i hi).1, (hb.cell hg).trans (h.cells i hi).2.1, (hb.cell hg).trans (h.cells i hi).2.2.1, (hb.cell hg).trans (h.cells i hi).2.2.2.1, (hb.cell hg).trans (h.cells i hi).2.2.2.2⟩⟩
theorem ReadVr.next {w w' : World} {g : Nat} {l : List Ver} (h : ReadVr w g l) (hb : Below w.heap.size w w') : ReadVr w' g l := h.step hb h.lt
theorem ReadVr.grown {w w' : World} {g : Nat} {l : List Ver} {row : Option Nat} (h : ReadVr w g l) (hg : w.grownBy w' row) (hne : some g ≠ row) : ReadVr w' g l :=
  ⟨Nat.lt_of_lt_of_le h.lt hg.size, fun i hi => ⟨(World.cell?_of_block (hg.block g h.lt hne)).trans (h.cells i hi).1, (World.cell?_of_block (hg.block g h.lt hne)).trans (h.cells i hi).2.1, (World.cell?_of_block (hg.block g h.lt hne)).trans (h.cells i hi).2.2.1, (World.cell?_of_block (hg.block g h.lt hne)).trans (h.cells i hi).2.2.2.1, (World.cell?_of_block (hg.block g h.lt hne)).trans (h.cells i hi).2.2.2.2⟩⟩
theorem ReadVr.of_own {w : World} {base g cap : Nat} {l : List Ver} (h : w.ownsRow base 69 5 (.slice (some ⟨g, 0, none⟩) l.length cap) l.length (flatVr l)) : ReadVr w g l :=
  ⟨(h.lt g rfl).2, fun i hi => ⟨owns_cell h _ _ (flatVr_get l i hi).1, owns_cell h _ _ (flatVr_get l i hi).2.1, owns_cell h _ _ (flatVr_get l i hi).2.2.1, owns_cell h _ _ (flatVr_get l i hi).2.2.2.1, owns_cell h _ _ (flatVr_get l i hi).2.2.2.2⟩⟩
/-- A row of versions, a nil one too. -/
def RowVr (w : World) (p : Option Addr) (l : List Ver) : Prop := l = [] ∨ ∃ g, p = some ⟨g, 0, none⟩ ∧ ReadVr w g l
theorem RowVr.next {w w' : World} {p : Option Addr} {l : List Ver} (h : RowVr w p l) (hb : Below w.heap.size w w') : RowVr w' p l := by
  rcases h with h | ⟨g, hp, hr⟩
  · exact .inl h
  · exact .inr ⟨g, hp, hr.next hb⟩
/-- Entries that came in. -/
def InVr (w : World) (a : Option Addr) (l : List Ver) : Prop := l.length = 0 ∨ ∃ b off, a = some ⟨b, off, none⟩ ∧ b < w.heap.size ∧ ∀ i (h : i < l.length), w.cell? ⟨b, off + i * 5, none⟩ = some (.int .i64 l[i].tm) ∧ w.cell? ⟨b, off + i * 5 + 1, none⟩ = some (.bool l[i].gone) ∧ w.cell? ⟨b, off + i * 5 + 2, none⟩ = some (.int .i64 l[i].doc.k) ∧ w.cell? ⟨b, off + i * 5 + 3, none⟩ = some (.int .i64 l[i].doc.n) ∧ w.cell? ⟨b, off + i * 5 + 4, none⟩ = some (.string l[i].doc.t)
theorem InVr.step {w w' : World} {a : Option Addr} {l : List Ver} (h : InVr w a l) (hb : Below w.heap.size w w') : InVr w' a l := by
  rcases h with h | ⟨b, off, ha, hlt, hc⟩
  · exact .inl h
  · exact .inr ⟨b, off, ha, Nat.lt_of_lt_of_le hlt hb.size, fun i hi => ⟨(hb.cell hlt).trans (hc i hi).1, (hb.cell hlt).trans (hc i hi).2.1, (hb.cell hlt).trans (hc i hi).2.2.1, (hb.cell hlt).trans (hc i hi).2.2.2.1, (hb.cell hlt).trans (hc i hi).2.2.2.2⟩⟩
theorem ReadVr.inVr {w : World} {g : Nat} {l : List Ver} (h : ReadVr w g l) : InVr w (some ⟨g, 0, none⟩) l :=
  .inr ⟨g, 0, rfl, h.lt, fun i hi => by rw [Nat.zero_add]; exact h.cells i hi⟩
theorem InVr.grown {w w' : World} {a : Option Addr} {l : List Ver} {row : Option Nat} (h : InVr w a l) (hg : w.grownBy w' row) (hne : ∀ b off, a = some ⟨b, off, none⟩ → some b ≠ row) : InVr w' a l := by
  rcases h with h | ⟨b, off, ha, hlt, hc⟩
  · exact .inl h
  · have hb := hg.block b hlt (hne b off ha)
    exact .inr ⟨b, off, ha, Nat.lt_of_lt_of_le hlt hg.size, fun i hi => ⟨(World.cell?_of_block hb).trans (hc i hi).1, (World.cell?_of_block hb).trans (hc i hi).2.1, (World.cell?_of_block hb).trans (hc i hi).2.2.1, (World.cell?_of_block hb).trans (hc i hi).2.2.2.1, (World.cell?_of_block hb).trans (hc i hi).2.2.2.2⟩⟩
/-- Entries that their owner may write, all of it from block number base on. -/
def OwnVr (w : World) (base : Nat) (v : Value) (l : List Ver) : Prop := w.ownsRow base 69 5 v l.length (flatVr l)
theorem OwnVr.form {w : World} {base : Nat} {v : Value} {l : List Ver} (h : OwnVr w base v l) : (v = .slice none 0 0 ∧ l = []) ∨ ∃ g cap, v = .slice (some ⟨g, 0, none⟩) l.length cap ∧ base ≤ g ∧ g < w.heap.size := by
  have hlt := World.ownsRow.lt h
  obtain ⟨h1, h2⟩ := h
  rcases h2 with ⟨h2, h3⟩ | ⟨g, cap, cur, hv, hg, hh, r⟩
  · exact .inl ⟨h2, List.length_eq_zero_iff.1 h3⟩
  · exact .inr ⟨g, cap, hv, hg, (hlt g (by rw [hv]; rfl)).2⟩
theorem OwnVr.inVr {w : World} {base : Nat} {v : Value} {l : List Ver} (h : OwnVr w base v l) : ∃ p cap, v = .slice p l.length cap ∧ InVr w p l := by
  rcases h.form with ⟨rfl, rfl⟩ | ⟨g, cap, rfl, _, _⟩
  · exact ⟨none, 0, rfl, .inl rfl⟩
  · exact ⟨_, cap, rfl, (ReadVr.of_own h).inVr⟩
/-- The first k versions, and zero ones behind them. -/
def mixVr (l : List Ver) (k : Nat) : List Ver := l.take k ++ List.replicate (l.length - k) zVr
theorem mixVr_len (l : List Ver) (k : Nat) (h : k ≤ l.length) : (mixVr l k).length = l.length := by unfold mixVr; simp; omega
theorem mixVr_full (l : List Ver) (k : Nat) (h : l.length ≤ k) : mixVr l k = l := by
  unfold mixVr; rw [List.take_of_length_le h, Nat.sub_eq_zero_of_le h]; simp
theorem mixVr_set (l : List Ver) (k : Nat) (h : k < l.length) : (mixVr l k).set k l[k] = mixVr l (k + 1) := by
  unfold mixVr
  have hl : (l.take k).length = k := by simp; omega
  rw [List.take_succ_eq_append_getElem h, List.append_assoc, List.set_append_right _ _ (by omega)]
  congr 1
  rw [hl, Nat.sub_self]
  obtain ⟨m, hm⟩ : ∃ m, l.length - k = m + 1 := ⟨l.length - k - 1, by omega⟩
  rw [hm, List.replicate_succ, show l.length - (k + 1) = m by omega]
  rfl
theorem made_zeroVr (n : Nat) : (madeCells (Value.agg #[.int .i64 0, .bool false, .int .i64 0, .int .i64 0, .string em]).cells (n * 5)).toList = flatVr (List.replicate n zVr) := by
  apply List.ext_getElem?
  intro j
  by_cases hj : j < n * 5
  · have hg := flatVr_get (List.replicate n zVr) (j / 5) (by simp; omega)
    simp only [List.getElem_replicate] at hg
    have hc : (Value.agg #[.int .i64 0, .bool false, .int .i64 0, .int .i64 0, .string em]).cells = #[.int .i64 0, .bool false, .int .i64 0, .int .i64 0, .string em] := by rfl
    rw [hc]
    have h3 : j % 5 = 0 ∨ j % 5 = 1 ∨ j % 5 = 2 ∨ j % 5 = 3 ∨ j % 5 = 4 := by omega
    rcases h3 with h3 | h3 | h3 | h3 | h3
    · have e : j = j / 5 * 5 := by omega
      rw [show (flatVr (List.replicate n zVr))[j]? = (flatVr (List.replicate n zVr))[j / 5 * 5]? by rw [← e], hg.1]
      simp [madeCells, hj, h3, zVr]
    · have e : j = j / 5 * 5 + 1 := by omega
      rw [show (flatVr (List.replicate n zVr))[j]? = (flatVr (List.replicate n zVr))[j / 5 * 5 + 1]? by rw [← e], hg.2.1]
      simp [madeCells, hj, h3, zVr]
    · have e : j = j / 5 * 5 + 2 := by omega
      rw [show (flatVr (List.replicate n zVr))[j]? = (flatVr (List.replicate n zVr))[j / 5 * 5 + 2]? by rw [← e], hg.2.2.1]
      simp [madeCells, hj, h3, zVr]
    · have e : j = j / 5 * 5 + 3 := by omega
      rw [show (flatVr (List.replicate n zVr))[j]? = (flatVr (List.replicate n zVr))[j / 5 * 5 + 3]? by rw [← e], hg.2.2.2.1]
      simp [madeCells, hj, h3, zVr]
    · have e : j = j / 5 * 5 + 4 := by omega
      rw [show (flatVr (List.replicate n zVr))[j]? = (flatVr (List.replicate n zVr))[j / 5 * 5 + 4]? by rw [← e], hg.2.2.2.2]
      simp [madeCells, hj, h3, zVr]
  · rw [List.getElem?_eq_none (by simp [madeCells]; omega), List.getElem?_eq_none (by rw [flatVr_len]; simp; omega)]

def szVr (t : Ver) : Prop := t.doc.t.size ≤ 1048576
def maxVr (t : Ver) : Prop := t.doc.t.size ≤ maxLen
theorem take_allVr (p : Ver → Prop) (l : List Ver) (k : Nat) (h : k < l.length) (h1 : ∀ v ∈ l.take k, p v) (h2 : p l[k]) : ∀ v ∈ l.take (k + 1), p v := by
  intro v hv
  rw [List.take_succ_eq_append_getElem h] at hv
  rcases List.mem_append.mp hv with hv | hv
  · exact h1 v hv
  · rw [List.mem_singleton.mp hv]; exact h2

set_option maxRecDepth 4000 in
set_option maxHeartbeats 1000000 in
theorem szVersion_any (at' : Int) (g : Bool) (k n : Int) (t : ByteArray) (c : Int) (w : World) (hs : t.size ≤ maxLen) (hc : 0 ≤ c) (hc2 : c ≤ 1048576) :
    Calls Tryz.prog 97 #[.agg #[.int .i64 at', .bool g, .int .i64 k, .int .i64 n, .string t], .int .i64 c] w fun e w' => (∃ r : Int, e = .returned (.int .i64 r) ∧ (r < 0 ∨ (0 ≤ r ∧ r ≤ c ∧ t.size ≤ 1048576))) ∧ Below w.heap.size w w' := by
  have hb0 : Below w.heap.size w (w.alloc (.cells #[.int .i64 at', .bool g, .int .i64 k, .int .i64 n, .string t] 137)) := (Below.refl _ _).alloc (Nat.le_refl _) _
  have HC : Hid (Calls _ _ _ _ _) := szValue_any k n t c (w.alloc (.cells #[.int .i64 at', .bool g, .int .i64 k, .int .i64 n, .string t] 137)) hs hc hc2
  by_cases h : c < t.size
  · rw [if_pos h] at HC
    go_enter Tryz.func97, Tryz.ntmps97
    go_wp2_with fail
    refine HC.out.mono ?_
    rintro e w1 ⟨rfl, hb⟩
    have hb1 := hb0.trans (hb.mono hb0.size)
    clear hb HC
    go_wp2_with fail
    go_ret
    exact ⟨⟨-1, rfl, .inl (by omega)⟩, hb1⟩
  · rw [if_neg h] at HC
    unfold maxLen at hs
    have hnn : ¬ (c - (t.size : Int)) < 0 := by omega
    go_enter Tryz.func97, Tryz.ntmps97
    go_wp2_with fail
    refine HC.out.mono ?_
    rintro e w1 ⟨rfl, hb⟩
    have hb1 := hb0.trans (hb.mono hb0.size)
    clear hb HC
    go_wp2_with fail
    go_ret
    exact ⟨⟨_, rfl, .inr ⟨by omega, by omega, by omega⟩⟩, hb1⟩
set_option maxRecDepth 4000 in
set_option maxHeartbeats 1000000 in
theorem toVersion_any (at' : Int) (g : Bool) (k n : Int) (t : ByteArray) (w : World) :
    Calls Tryz.prog 103 #[.agg #[.int .i64 at', .bool g, .int .i64 k, .int .i64 n, .string t]] w fun e w' => e = .returned (.agg #[.int .i64 at', .bool g, .int .i64 k, .int .i64 n, .string t]) ∧ Below w.heap.size w w' := by
  go_enter Tryz.func103, Tryz.ntmps103
  go_wp2_with fail
  refine (toValue_any k n t _).mono ?_
  rintro e w1 ⟨rfl, hb⟩
  obtain ⟨hc, hf⟩ := Tr.bcell hb
  have hz : w.heap.size + 2 < w1.heap.size := by have := hb.size; simp at this; omega
  have hbw : Below w.heap.size w w1 := (show Below w.heap.size w _ by (repeat (first | (with_reducible exact Below.refl _ _) | (with_reducible assumption) | (with_reducible apply below_drewN) | (with_reducible apply Below.drew) | ((with_reducible refine Below.setCell ?_ ?_ _); rotate_left; focus (first | (simp; done) | (simp; omega) | omega)) | ((with_reducible refine Below.alloc ?_ ?_ _); rotate_left; focus (first | (simp; done) | (simp; omega) | omega))))).trans (hb.mono (by simp; omega))
  clear hb
  go_wp2_with fail
  exact bodyPost_ret (v := .agg #[.int .i64 at', .bool g, .int .i64 k, .int .i64 n, .string t]) (by simp [results, Tryz.results103, go_sem, *]) rfl ⟨rfl, by (repeat (first | (with_reducible exact Below.refl _ _) | (with_reducible assumption) | (with_reducible apply below_drewN) | (with_reducible apply Below.drew) | ((with_reducible refine Below.setCell ?_ ?_ _); rotate_left; focus (first | (simp; done) | (simp; omega) | omega)) | ((with_reducible refine Below.alloc ?_ ?_ _); rotate_left; focus (first | (simp; done) | (simp; omega) | omega))))⟩
set_option maxRecDepth 4000 in
set_option maxHeartbeats 1000000 in
theorem szVersionS_any (a : Option Addr) (cap : Nat) (l : List Ver) (c0 : Int) (w : World) (hin : InVr w a l) (hl : l.length ≤ maxLen) (hs : ∀ v ∈ l, maxVr v) (h0 : 0 ≤ c0) (h1 : c0 ≤ 1048576) :
    Calls Tryz.prog 70 #[.slice a l.length cap, .int .i64 c0] w fun e w' => (∃ r : Int, e = .returned (.int .i64 r) ∧ (r < 0 ∨ (0 ≤ r ∧ r ≤ c0 ∧ l.length ≤ 1048576 ∧ ∀ v ∈ l, szVr v))) ∧ Below w.heap.size w w' := by
  unfold maxLen at hl
  have HI : Hid _ := hin
  have HS : Hid _ := hs
  clear hin hs
  by_cases hbig : c0 < (l.length : Int)
  · have hneg : c0 - (l.length : Int) < 0 := by omega
    go_enter Tryz.func70, Tryz.ntmps70
    go_wp2_with fail
    go_ret
    exact ⟨⟨-1, rfl, .inl (by omega)⟩, Below.refl _ _⟩
  · have hneg : ¬ c0 - (l.length : Int) < 0 := by omega
    go_enter Tryz.func70, Tryz.ntmps70
    go_wp2_with fail
    go_loopw [1, 5] (fun u i wr => ∃ k : Nat, k ≤ l.length ∧ i = .int .i64 k ∧ ∃ c : Int, u = .int .i64 c ∧ 0 ≤ c ∧ c ≤ c0 ∧ (∀ v ∈ l.take k, szVr v) ∧ Below w.heap.size w wr) (fun _ i _ => l.length - (intOf i).toNat)
    case atStart => exact ⟨0, Nat.zero_le _, rfl, _, rfl, by omega, by omega, (fun v hv => by simp at hv), Below.refl _ _⟩
    case round =>
      obtain ⟨k, hk, rfl, c, rfl, hc0, hc1, hall, hbel⟩ := hrel
      have HA : Hid _ := hall
      clear hall
      by_cases hlt : k < l.length
      · rcases HI.out with h0' | ⟨b, off, rfl, hbl, hcell⟩
        · omega
        · have hlt2 : (k : Int) < (l.length : Int) := by omega
          have x0 := (hbel.cell hbl).trans (hcell k hlt).1
          have x1 := (hbel.cell hbl).trans (hcell k hlt).2.1
          have x2 := (hbel.cell hbl).trans (hcell k hlt).2.2.1
          have x3 := (hbel.cell hbl).trans (hcell k hlt).2.2.2.1
          have x4 := (hbel.cell hbl).trans (hcell k hlt).2.2.2.2
          have hsz := HS.out l[k] (List.getElem_mem _)
          clear hcell
          go_wp2_with fail
          refine (szVersion_any _ _ _ _ _ c _ hsz hc0 (by omega)).mono ?_
          rintro e w1 ⟨⟨r, rfl, hr⟩, hb⟩
          have hb1 := hbel.trans (hb.mono hbel.size)
          clear hb
          rcases hr with hneg2 | ⟨hr0, hr1, hr2⟩
          · go_wp2_with fail
            go_ret
            exact ⟨⟨-1, rfl, .inl (by omega)⟩, hb1⟩
          · have hnn : ¬ r < 0 := by omega
            have HSZ : Hid (szVr l[k]) := hr2
            clear hr2
            go_wp2_with fail
            go_roundw
            case rel => exact ⟨k + 1, by omega, by go_num, r, rfl, by omega, by omega, take_allVr _ l k hlt HA.out HSZ.out, hb1⟩
            case measure => simp [intOf]; omega
      · have hlt2 : ¬ (k : Int) < (l.length : Int) := by omega
        go_wp2_with fail
        go_ret
        exact ⟨⟨c, rfl, .inr ⟨hc0, hc1, by omega, by have := HA.out; rw [List.take_of_length_le (by omega)] at this; exact this⟩⟩, hbel⟩

set_option maxRecDepth 4000 in
set_option maxHeartbeats 1000000 in
theorem toVersionS_any (a : Option Addr) (cap : Nat) (l : List Ver) (w : World) (hin : InVr w a l) (hlen : l.length ≤ 1048576) :
    Calls Tryz.prog 77 #[.slice a l.length cap] w fun e w' => (∃ g, e = .returned (.slice (some ⟨g, 0, none⟩) l.length l.length) ∧ OwnVr w' w.heap.size (.slice (some ⟨g, 0, none⟩) l.length l.length) l) ∧ Below w.heap.size w w' := by
  obtain ⟨i0, hi, hz0, hz1, hz2⟩ := info_parts infoVr
  have HI : Hid _ := hin
  clear hin
  go_enter Tryz.func77, Tryz.ntmps77
  go_wp2_with (refine wpList_make_full _ rfl (.tmp 6) (.tmp 6) 65 rfl w.heap.size 69 i0 (.agg #[.int .i64 0, .bool false, .int .i64 0, .int .i64 0, .string em]) 5 Tryz.underlying65 hi hz0 hz1 .i64 .i64 _ _ l.length rfl rfl rfl rfl (by rw [hz2]; omega) (by unfold maxLen; omega) (Nat.le_refl _) ?_; intro w1 hown1 hgrow1)
  have hb1 : Below w.heap.size w w1 := Below.grown (Below.refl _ _) hgrow1 (Nat.le_refl _) (fun k h => by cases h)
  have hz : w.heap.size < w1.heap.size := (World.ownsRow.lt hown1 w.heap.size rfl).2
  rw [made_zeroVr, show List.replicate l.length zVr = mixVr l 0 from by simp [mixVr]] at hown1
  clear hgrow1
  go_loopw [4] (fun i wr => ∃ k : Nat, k ≤ l.length ∧ i = .int .i64 k ∧ wr.ownsRow w.heap.size 69 5 (.slice (some ⟨w.heap.size, 0, none⟩) l.length l.length) l.length (flatVr (mixVr l k)) ∧ Below w.heap.size w wr) (fun i _ => l.length - (intOf i).toNat)
  case atStart => exact ⟨0, Nat.zero_le _, rfl, hown1, hb1⟩
  case round =>
    obtain ⟨k, hk, rfl, hown, hbel⟩ := hrel
    clear hown1 hb1 hz
    by_cases hlt : k < l.length
    · rcases HI.out with h0 | ⟨b, off, rfl, hbl, hc⟩
      · omega
      · have hlt2 : (k : Int) < (l.length : Int) := by omega
        have x0 := (hbel.cell hbl).trans (hc k hlt).1
        have x1 := (hbel.cell hbl).trans (hc k hlt).2.1
        have x2 := (hbel.cell hbl).trans (hc k hlt).2.2.1
        have x3 := (hbel.cell hbl).trans (hc k hlt).2.2.2.1
        have x4 := (hbel.cell hbl).trans (hc k hlt).2.2.2.2
        have hz := hbel.size
        have HO : Hid (World.ownsRow _ _ _ _ _ _ _) := hown
        have HB : Hid _ := hbel
        have hgl : w.heap.size < wr.heap.size := (hown.lt _ rfl).2
        clear hc hown hbel
        go_wp2_with fail
        refine (toVersion_any _ _ _ _ _ _).mono ?_
        rintro e w2 ⟨rfl, hb2⟩
        have hown2 := owns_below HO.out hb2
        have hm := mixVr_len l k hk
        have hg := flatVr_get (mixVr l k) k (by omega)
        obtain ⟨z0, y0⟩ : ∃ u, w2.cell? ⟨w.heap.size, k * 5, none⟩ = some u := ⟨_, owns_cell hown2 _ _ hg.1⟩
        obtain ⟨z1, y1⟩ : ∃ u, w2.cell? ⟨w.heap.size, k * 5 + 1, none⟩ = some u := ⟨_, owns_cell hown2 _ _ hg.2.1⟩
        obtain ⟨z2, y2⟩ : ∃ u, w2.cell? ⟨w.heap.size, k * 5 + 2, none⟩ = some u := ⟨_, owns_cell hown2 _ _ hg.2.2.1⟩
        obtain ⟨z3, y3⟩ : ∃ u, w2.cell? ⟨w.heap.size, k * 5 + 3, none⟩ = some u := ⟨_, owns_cell hown2 _ _ hg.2.2.2.1⟩
        obtain ⟨z4, y4⟩ : ∃ u, w2.cell? ⟨w.heap.size, k * 5 + 4, none⟩ = some u := ⟨_, owns_cell hown2 _ _ hg.2.2.2.2⟩
        have f0 := World.ownsRow.frozenAt hown2 (k * 5)
        have f1 := World.ownsRow.frozenAt hown2 (k * 5 + 1)
        have f2 := World.ownsRow.frozenAt hown2 (k * 5 + 2)
        have f3 := World.ownsRow.frozenAt hown2 (k * 5 + 3)
        have f4 := World.ownsRow.frozenAt hown2 (k * 5 + 4)
        have hst := (World.ownsRow.stored (World.ownsRow.stored (World.ownsRow.stored (World.ownsRow.stored (World.ownsRow.stored hown2 (k * 5) (.int .i64 l[k].tm)).1 (k * 5 + 1) (.bool l[k].gone)).1 (k * 5 + 2) (.int .i64 l[k].doc.k)).1 (k * 5 + 3) (.int .i64 l[k].doc.n)).1 (k * 5 + 4) (.string l[k].doc.t)).1
        rw [flatVr_set _ _ _ (by omega), mixVr_set l k hlt] at hst
        have HS : Hid (World.ownsRow _ _ _ _ _ _ _) := hst
        have HB2 : Hid _ := HB.out.trans (hb2.mono HB.out.size)
        have hz2 := hb2.size
        clear hst hown2 hg hm hb2
        go_wp2_with fail
        go_roundw
        case rel => exact ⟨k + 1, by omega, by go_num, HS.out, ((((HB2.out.setCell (Nat.le_refl _) _).setCell (Nat.le_refl _) _).setCell (Nat.le_refl _) _).setCell (Nat.le_refl _) _).setCell (Nat.le_refl _) _⟩
        case measure => simp [intOf]; omega
    · have hlt2 : ¬ (k : Int) < (l.length : Int) := by omega
      go_wp2_with fail
      go_ret
      rw [mixVr_full l k (by omega)] at hown
      exact ⟨⟨w.heap.size, rfl, hown⟩, hbel⟩

set_option maxRecDepth 4000 in
set_option maxHeartbeats 1000000 in
theorem eqVersion_same (at' : Int) (g : Bool) (k n : Int) (t : ByteArray) (w : World) :
    Calls Tryz.prog 117 #[.agg #[.int .i64 at', .bool g, .int .i64 k, .int .i64 n, .string t], .agg #[.int .i64 at', .bool g, .int .i64 k, .int .i64 n, .string t]] w fun e w' => e = .returned (.bool true) ∧ Below w.heap.size w w' := by
  have hb0 : Below w.heap.size w ((w.alloc (.cells #[.int .i64 at', .bool g, .int .i64 k, .int .i64 n, .string t] 69)).alloc (.cells #[.int .i64 at', .bool g, .int .i64 k, .int .i64 n, .string t] 69)) := ((Below.refl _ _).alloc (Nat.le_refl _) _).alloc (by simp) _
  have HC : Hid (Calls _ _ _ _ _) := eqValue_same k n t ((w.alloc (.cells #[.int .i64 at', .bool g, .int .i64 k, .int .i64 n, .string t] 69)).alloc (.cells #[.int .i64 at', .bool g, .int .i64 k, .int .i64 n, .string t] 69))
  go_enter Tryz.func117, Tryz.ntmps117
  go_wp2_with fail
  refine HC.out.mono ?_
  rintro e w1 ⟨rfl, hb⟩
  have hbw := hb0.trans (hb.mono hb0.size)
  clear hb HC
  go_wp2_with fail
  go_ret
  exact ⟨rfl, hbw⟩
set_option maxRecDepth 4000 in
set_option maxHeartbeats 1000000 in
theorem eqVersionS_same (p1 p2 : Option Addr) (c1 c2 : Nat) (l : List Ver) (w : World) (h1 : InVr w p1 l) (h2 : InVr w p2 l) (hlen : l.length ≤ 1048576) :
    Calls Tryz.prog 95 #[.slice p1 l.length c1, .slice p2 l.length c2] w fun e w' => e = .returned (.bool true) ∧ Below w.heap.size w w' := by
  have H1 : Hid (InVr _ _ _) := h1
  have H2 : Hid (InVr _ _ _) := h2
  clear h1 h2
  go_enter Tryz.func95, Tryz.ntmps95
  go_wp2_with fail
  go_loopw [5] (fun i wr => ∃ k : Nat, k ≤ l.length ∧ i = .int .i64 k ∧ Below w.heap.size w wr) (fun i _ => l.length - (intOf i).toNat)
  case atStart => exact ⟨0, Nat.zero_le _, rfl, Below.refl _ _⟩
  case round =>
    obtain ⟨k, hk, rfl, hbel⟩ := hrel
    by_cases hlt : k < l.length
    · rcases H1.out.step hbel with h0 | ⟨g1, o1, rfl, l1, x1⟩
      · omega
      rcases H2.out.step hbel with h0 | ⟨g2, o2, rfl, l2, x2⟩
      · omega
      have hk1 : (k : Int) < (l.length : Int) := by omega
      have q0 : ∀ u : Under wr, u.x.cell? ⟨g1, o1 + k * 5, none⟩ = some (.int .i64 l[k].tm) := fun u => (u.h.cell l1).trans (x1 k hlt).1
      have r0 : ∀ u : Under wr, u.x.cell? ⟨g2, o2 + k * 5, none⟩ = some (.int .i64 l[k].tm) := fun u => (u.h.cell l2).trans (x2 k hlt).1
      have q1 : ∀ u : Under wr, u.x.cell? ⟨g1, o1 + k * 5 + 1, none⟩ = some (.bool l[k].gone) := fun u => (u.h.cell l1).trans (x1 k hlt).2.1
      have r1 : ∀ u : Under wr, u.x.cell? ⟨g2, o2 + k * 5 + 1, none⟩ = some (.bool l[k].gone) := fun u => (u.h.cell l2).trans (x2 k hlt).2.1
      have q2 : ∀ u : Under wr, u.x.cell? ⟨g1, o1 + k * 5 + 2, none⟩ = some (.int .i64 l[k].doc.k) := fun u => (u.h.cell l1).trans (x1 k hlt).2.2.1
      have r2 : ∀ u : Under wr, u.x.cell? ⟨g2, o2 + k * 5 + 2, none⟩ = some (.int .i64 l[k].doc.k) := fun u => (u.h.cell l2).trans (x2 k hlt).2.2.1
      have q3 : ∀ u : Under wr, u.x.cell? ⟨g1, o1 + k * 5 + 3, none⟩ = some (.int .i64 l[k].doc.n) := fun u => (u.h.cell l1).trans (x1 k hlt).2.2.2.1
      have r3 : ∀ u : Under wr, u.x.cell? ⟨g2, o2 + k * 5 + 3, none⟩ = some (.int .i64 l[k].doc.n) := fun u => (u.h.cell l2).trans (x2 k hlt).2.2.2.1
      have q4 : ∀ u : Under wr, u.x.cell? ⟨g1, o1 + k * 5 + 4, none⟩ = some (.string l[k].doc.t) := fun u => (u.h.cell l1).trans (x1 k hlt).2.2.2.2
      have r4 : ∀ u : Under wr, u.x.cell? ⟨g2, o2 + k * 5 + 4, none⟩ = some (.string l[k].doc.t) := fun u => (u.h.cell l2).trans (x2 k hlt).2.2.2.2
      have hnu : Nonempty (Under wr) := ⟨⟨wr, Below.refl _ _⟩⟩
      clear x1 x2
      go_wp2_with fail
      refine wp_region_under (by kernel_rfl) (by kernel_rfl) ?_
      repeat (go_big_quiet_step ((go_at_call 117; exact calls_under _ (eqVersion_same l[k].tm l[k].gone l[k].doc.k l[k].doc.n l[k].doc.t _))))
      refine wpQuiet_nil ?_
      rintro _ ⟨u, rfl⟩
      go_wp2_with fail
      go_roundw
      case rel => exact ⟨k + 1, by omega, by go_num, hbel.trans (u.h.mono hbel.size)⟩
      case measure => simp [intOf]; omega
    · have hlt2 : ¬ (k : Int) < (l.length : Int) := by omega
      go_wp2_with fail
      go_ret
      exact ⟨rfl, hbel⟩

end Go.Proofs.YtncpijfbbgipaaaGreatDoor.Co
