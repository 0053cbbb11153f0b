/- Pure: what strings.Cut leaves behind a text's end, and what stands from a place on. -/
import Derived.Test.YtmchpaccdnnilaaTrMQ
import Derived.Lib.CutLaws
import Derived.Lib.BufferWrite
import Derived.Lib.UnsafeStr
import Derived.Laws.MakeOwn
import Derived.Deep.RegionWith
namespace Go.Proofs.Ytmchpaccdnnilaa.Tr
open Go.RowKit
set_option linter.unusedVariables false

theorem from_from (s : ByteArray) (i j : Nat) (h : i ≤ s.size) : from_ (from_ s i) j = from_ s (i + j) := by
  unfold from_
  rw [ByteArray.extract_extract]
  congr 1
  simp; omega
theorem from_zero (s : ByteArray) : from_ s 0 = s := by unfold from_; simp
theorem from_head (s : ByteArray) (i : Nat) (h : i < s.size) (h' : 0 < (from_ s i).size) : (from_ s i)[0] = s[i] := by
  have key : ∀ (h2 : 0 < (s.extract i s.size).size), (s.extract i s.size)[0] = s[i] := by
    intro h2
    rw [ByteArray.getElem_extract]; simp
  exact key h'

abbrev zz : ByteArray := ⟨#[0, 0]⟩
theorem occ_zz (s : ByteArray) (i : Nat) : Lib.occAt s.data.toList zz.data.toList i = true ↔ ∃ h : i + 1 < s.size, s[i] = 0 ∧ s[i + 1] = 0 := by
  obtain ⟨⟨l⟩⟩ := s
  unfold Lib.occAt
  simp only [ByteArray.size, ByteArray.getElem_eq_getElem_data]
  show List.isPrefixOf [0, 0] (l.drop i) = true ↔ ∃ h : i + 1 < l.length, l[i] = 0 ∧ l[i + 1] = 0
  constructor
  · intro h
    rw [List.isPrefixOf_iff_prefix] at h
    obtain ⟨t, ht⟩ := h
    have hl : (l.drop i).length = t.length + 2 := by rw [← ht]; simp
    rw [List.length_drop] at hl
    refine ⟨by omega, ?_, ?_⟩
    · have : (l.drop i)[0]? = some 0 := by rw [← ht]; rfl
      rw [List.getElem?_drop, List.getElem?_eq_getElem (by omega)] at this
      simpa using this
    · have : (l.drop i)[1]? = some 0 := by rw [← ht]; rfl
      rw [List.getElem?_drop, List.getElem?_eq_getElem (by omega)] at this
      simpa using this
  · rintro ⟨h, h0, h1⟩
    rw [List.drop_eq_getElem_cons (by omega), List.drop_eq_getElem_cons (by omega), h0, h1]
    rfl
theorem txtF_found (s : ByteArray) : ∀ (n i : Nat), s.size - i ≤ n → txtF s i ≠ 0 → ∃ k, i ≤ k ∧ txtF s i = k + 2 ∧ Lib.occAt s.data.toList zz.data.toList k = true ∧ ∀ j, i ≤ j → j < k → Lib.occAt s.data.toList zz.data.toList j = false
  | 0, i, hn, h0 => absurd (txtF_end s i (by omega)) h0
  | n + 1, i, hn, h0 => by
    by_cases h : i + 1 < s.size
    · by_cases hz : s[i] = 0 ∧ s[i + 1] = 0
      · exact ⟨i, Nat.le_refl _, txtF_hit s i h hz.1 hz.2, (occ_zz s i).2 ⟨h, hz⟩, fun j h1 h2 => absurd h2 (by omega)⟩
      · rw [txtF_miss s i h hz] at h0 ⊢
        obtain ⟨k, h1, h2, h3, h4⟩ := txtF_found s n (i + 1) (by omega) h0
        refine ⟨k, by omega, h2, h3, fun j hj hk => ?_⟩
        by_cases hji : j = i
        · subst hji
          rw [← Bool.not_eq_true]
          exact fun e => hz ((occ_zz s j).1 e).2
        · exact h4 j (by omega) hk
    · exact absurd (txtF_end s i h) h0
theorem txtF_none (s : ByteArray) : ∀ (n i : Nat), s.size - i ≤ n → txtF s i = 0 → ∀ j, i ≤ j → Lib.occAt s.data.toList zz.data.toList j = false
  | 0, i, hn, h0, j, hj => by
    rw [← Bool.not_eq_true]
    exact fun e => by have := ((occ_zz s j).1 e).1; omega
  | n + 1, i, hn, h0, j, hj => by
    by_cases h : i + 1 < s.size
    · by_cases hz : s[i] = 0 ∧ s[i + 1] = 0
      · rw [txtF_hit s i h hz.1 hz.2] at h0; omega
      · rw [txtF_miss s i h hz] at h0
        by_cases hji : j = i
        · subst hji
          rw [← Bool.not_eq_true]
          exact fun e => hz ((occ_zz s j).1 e).2
        · exact txtF_none s n (i + 1) (by omega) h0 j (by omega)
    · rw [← Bool.not_eq_true]
      exact fun e => by have := ((occ_zz s j).1 e).1; omega
theorem cut_found (s : ByteArray) (h : txt0 s ≠ 0) : (⟨(Lib.cut s.data.toList zz.data.toList).2.1.toArray⟩ : ByteArray) = from_ s (txt0 s) ∧ (Lib.cut s.data.toList zz.data.toList).2.2 = true := by
  obtain ⟨k, _, h2, h3, h4⟩ := txtF_found s s.size 0 (by omega) h
  have hk := ((occ_zz s k).1 h3).1
  have hi : Lib.indexB s zz = k := Lib.index_first (by rw [Array.length_toList]; show k ≤ s.size; omega) h3 (fun j hj => h4 j (Nat.zero_le _) hj)
  obtain ⟨_, e2, e3⟩ := Lib.cutB_hit s zz k hi
  refine ⟨?_, e3⟩
  rw [e2]
  show s.extract (k + 2) s.size = from_ s (txtF s 0)
  rw [h2]; rfl
theorem cut_missed (s : ByteArray) (h : txt0 s = 0) : (⟨(Lib.cut s.data.toList zz.data.toList).2.1.toArray⟩ : ByteArray) = ByteArray.empty ∧ (Lib.cut s.data.toList zz.data.toList).2.2 = false := by
  have hno := txtF_none s s.size 0 (by omega) h
  have hi : Lib.indexB s zz = -1 := Lib.index_none (fun j _ => hno j (Nat.zero_le _))
  obtain ⟨_, e2, e3⟩ := Lib.cutB_miss s zz hi
  exact ⟨e2, e3⟩

end Go.Proofs.Ytmchpaccdnnilaa.Tr

/- What the specification's looking for the ends of keys answers, for every text. -/
namespace Go.Proofs.Ytmchpaccdnnilaa.Tr
open Go.RowKit
set_option linter.unusedVariables false

theorem byte_is {b : UInt8} (c : UInt8) (h : b = c) : ((b.toNat : Int) == (c.toNat : Int)) = true := by rw [h]; simp
theorem byte_not {b : UInt8} (c : UInt8) (h : b ≠ c) : ((b.toNat : Int) == (c.toNat : Int)) = false := beq_eq_false_iff_ne.mpr (fun e => h (UInt8.toNat_inj.mp (by omega)))
theorem byte_is2 {b : UInt8} (c : UInt8) (h : b = c) : ((b.toNat : Int) != (c.toNat : Int)) = false := by rw [bne, byte_is c h]; rfl
theorem byte_not2 {b : UInt8} (c : UInt8) (h : b ≠ c) : ((b.toNat : Int) != (c.toNat : Int)) = true := by rw [bne, byte_not c h]; rfl

theorem stepK_plain (L : ByteArray → Nat) (s : ByteArray) (i : Nat) (h : i < s.size) : stepK L false s i h = L (from_ s i) := rfl
theorem stepK_mark (L : ByteArray → Nat) (s : ByteArray) (i : Nat) (h : i < s.size) (h1 : s[i] ≠ 1) : stepK L true s i h = 0 := by
  unfold stepK; rw [if_pos rfl, if_neg h1]
theorem stepK_name (L : ByteArray → Nat) (s : ByteArray) (i : Nat) (h : i < s.size) (h1 : txt0 (from_ s (i + 1)) = 0) : stepK L true s i h = 0 := by
  unfold stepK; rw [if_pos rfl]; simp only [h1, if_true]; split
  · rfl
  · rfl
theorem stepK_value (L : ByteArray → Nat) (s : ByteArray) (i k : Nat) (h : i < s.size) (hk : k = txt0 (from_ s (i + 1))) (h1 : L (from_ s (i + 1 + k)) = 0) : stepK L true s i h = 0 := by
  subst hk
  unfold stepK; rw [if_pos rfl]; simp only [h1, if_true]; split
  · split
    · rfl
    · rfl
  · rfl
theorem stepK_all (L : ByteArray → Nat) (s : ByteArray) (i k q : Nat) (h : i < s.size) (h1 : s[i] = 1) (hk : k = txt0 (from_ s (i + 1))) (hk0 : k ≠ 0) (hq : q = L (from_ s (i + 1 + k))) (hq0 : q ≠ 0) : stepK L true s i h = 1 + k + q := by
  subst hq; subst hk
  unfold stepK; rw [if_pos rfl, if_pos h1, if_neg hk0, if_neg hq0]

theorem lenK_zero (n : Nat) (s : ByteArray) (h : s.size = 0) : lenK n s = 0 := by have := lenK_le n s; omega

end Go.Proofs.Ytmchpaccdnnilaa.Tr

/- Rows of entries: what the laws' own helpers on them answer. -/
namespace Go.Proofs.Ytmchpaccdnnilaa.Tr
open Go.RowKit
set_option linter.unusedVariables false

def ze : Ent := ⟨em, 0⟩
def rowE (t : Ent) : List Value := [.string t.key, .int .i64 t.id]
def flatE (l : List Ent) : List Value := l.flatMap rowE
theorem flatE_snoc (l : List Ent) (f : Ent) : flatE (l ++ [f]) = flatE l ++ rowE f := by unfold flatE; simp
theorem flatE_app (a b : List Ent) : flatE (a ++ b) = flatE a ++ flatE b := by unfold flatE; simp
theorem flatE_cons (v : Ent) (l : List Ent) : flatE (v :: l) = .string v.key :: .int .i64 v.id :: flatE l := rfl
theorem flatE_len (l : List Ent) : (flatE l).length = l.length * 2 := by
  induction l with
  | nil => rfl
  | cons v l ih => rw [flatE_cons]; simp [ih]; omega
theorem flatE_get : ∀ (l : List Ent) (i : Nat) (h : i < l.length), (flatE l)[i * 2]? = some (.string l[i].key) ∧ (flatE l)[i * 2 + 1]? = some (.int .i64 l[i].id)
  | v :: l, 0, _ => ⟨rfl, rfl⟩
  | v :: l, i + 1, h => by
    have ih := flatE_get l i (by simpa using h)
    have e : flatE (v :: l) = rowE v ++ flatE l := by unfold flatE; simp
    rw [e, show (i + 1) * 2 = i * 2 + 2 by omega]
    have hl : (rowE v).length = 2 := rfl
    refine ⟨?_, ?_⟩
    · rw [List.getElem?_append_right (by omega), hl]; simpa using ih.1
    · rw [List.getElem?_append_right (by omega), hl, show i * 2 + 2 + 1 - 2 = i * 2 + 1 by omega]; simpa using ih.2
theorem flatE_set : ∀ (l : List Ent) (k : Nat) (v : Ent), k < l.length → ((flatE l).set (k * 2) (.string v.key)).set (k * 2 + 1) (.int .i64 v.id) = flatE (l.set k v)
  | [], k, v, h => by simp at h
  | u :: l, 0, v, _ => rfl
  | u :: l, k + 1, v, h => by
    rw [List.set_cons_succ, flatE_cons, flatE_cons, ← flatE_set l k v (by simpa using h)]
    rw [show (k + 1) * 2 = k * 2 + 1 + 1 by omega]
    rfl
/-- A row of entries that stands at a block's head. -/
structure ReadE (w : World) (g : Nat) (l : List Ent) : Prop where
  lt : g < w.heap.size
  cells : ∀ i (h : i < l.length), w.cell? ⟨g, i * 2, none⟩ = some (.string l[i].key) ∧ w.cell? ⟨g, i * 2 + 1, none⟩ = some (.int .i64 l[i].id)
theorem ReadE.step {w w' : World} {g base : Nat} {l : List Ent} (h : ReadE w g l) (hb : Below base w w') (hg : g < base) : ReadE w' g l :=
  ⟨Nat.lt_of_lt_of_le h.lt hb.size, fun i hi => ⟨(hb.cell hg).trans (h.cells i hi).1, (hb.cell hg).trans (h.cells i hi).2⟩⟩
theorem ReadE.next {w w' : World} {g : Nat} {l : List Ent} (h : ReadE w g l) (hb : Below w.heap.size w w') : ReadE w' g l := h.step hb h.lt
theorem ReadE.grown {w w' : World} {g : Nat} {l : List Ent} {row : Option Nat} (h : ReadE w g l) (hg : w.grownBy w' row) (hne : some g ≠ row) : ReadE w' g l :=
  ⟨Nat.lt_of_lt_of_le h.lt hg.size, fun i hi => ⟨(World.cell?_of_block (hg.block g h.lt hne)).trans (h.cells i hi).1, (World.cell?_of_block (hg.block g h.lt hne)).trans (h.cells i hi).2⟩⟩
/-- A row of entries, a nil one too. -/
def RowE (w : World) (p : Option Addr) (l : List Ent) : Prop := l = [] ∨ ∃ g, p = some ⟨g, 0, none⟩ ∧ ReadE w g l
theorem RowE.next {w w' : World} {p : Option Addr} {l : List Ent} (h : RowE w p l) (hb : Below w.heap.size w w') : RowE w' p l := by
  rcases h with h | ⟨g, hp, hr⟩
  · exact .inl h
  · exact .inr ⟨g, hp, hr.next hb⟩
/-- Entries that came in. -/
def InE (w : World) (a : Option Addr) (l : List Ent) : Prop := l.length = 0 ∨ ∃ b off, a = some ⟨b, off, none⟩ ∧ b < w.heap.size ∧ ∀ i (h : i < l.length), w.cell? ⟨b, off + i * 2, none⟩ = some (.string l[i].key) ∧ w.cell? ⟨b, off + i * 2 + 1, none⟩ = some (.int .i64 l[i].id)
theorem InE.step {w w' : World} {a : Option Addr} {l : List Ent} (h : InE w a l) (hb : Below w.heap.size w w') : InE w' a l := by
  rcases h with h | ⟨b, off, ha, hlt, hc⟩
  · exact .inl h
  · exact .inr ⟨b, off, ha, Nat.lt_of_lt_of_le hlt hb.size, fun i hi => ⟨(hb.cell hlt).trans (hc i hi).1, (hb.cell hlt).trans (hc i hi).2⟩⟩
theorem ReadE.inE {w : World} {g : Nat} {l : List Ent} (h : ReadE w g l) : InE w (some ⟨g, 0, none⟩) l :=
  .inr ⟨g, 0, rfl, h.lt, fun i hi => by rw [Nat.zero_add]; exact h.cells i hi⟩
theorem InE.grown {w w' : World} {a : Option Addr} {l : List Ent} {row : Option Nat} (h : InE w a l) (hg : w.grownBy w' row) (hne : ∀ b off, a = some ⟨b, off, none⟩ → some b ≠ row) : InE w' a l := by
  rcases h with h | ⟨b, off, ha, hlt, hc⟩
  · exact .inl h
  · have hb := hg.block b hlt (hne b off ha)
    exact .inr ⟨b, off, ha, Nat.lt_of_lt_of_le hlt hg.size, fun i hi => ⟨(World.cell?_of_block hb).trans (hc i hi).1, (World.cell?_of_block hb).trans (hc i hi).2⟩⟩
/-- The first k entries, and zero ones behind them. -/
def mixE (l : List Ent) (k : Nat) : List Ent := l.take k ++ List.replicate (l.length - k) ze
theorem mixE_len (l : List Ent) (k : Nat) (h : k ≤ l.length) : (mixE l k).length = l.length := by unfold mixE; simp; omega
theorem mixE_full (l : List Ent) (k : Nat) (h : l.length ≤ k) : mixE l k = l := by
  unfold mixE; rw [List.take_of_length_le h, Nat.sub_eq_zero_of_le h]; simp
theorem mixE_set (l : List Ent) (k : Nat) (h : k < l.length) : (mixE l k).set k l[k] = mixE l (k + 1) := by
  unfold mixE
  have hl : (l.take k).length = k := by simp; omega
  rw [List.take_succ_eq_append_getElem h, List.append_assoc, List.set_append_right _ _ (by omega)]
  congr 1
  rw [hl, Nat.sub_self]
  obtain ⟨m, hm⟩ : ∃ m, l.length - k = m + 1 := ⟨l.length - k - 1, by omega⟩
  rw [hm, List.replicate_succ, show l.length - (k + 1) = m by omega]
  rfl
theorem made_zeroE (n : Nat) : (madeCells (Value.agg #[.string em, .int .i64 0]).cells (n * 2)).toList = flatE (List.replicate n ze) := by
  apply List.ext_getElem?
  intro j
  by_cases hj : j < n * 2
  · have hg := flatE_get (List.replicate n ze) (j / 2) (by simp; omega)
    simp only [List.getElem_replicate] at hg
    have hc : (Value.agg #[.string em, .int .i64 0]).cells = #[.string em, .int .i64 0] := by rfl
    rw [hc]
    have h3 : j % 2 = 0 ∨ j % 2 = 1 := by omega
    rcases h3 with h3 | h3
    · have e : j = j / 2 * 2 := by omega
      rw [show (flatE (List.replicate n ze))[j]? = (flatE (List.replicate n ze))[j / 2 * 2]? by rw [← e], hg.1]
      simp [madeCells, hj, h3, ze]
    · have e : j = j / 2 * 2 + 1 := by omega
      rw [show (flatE (List.replicate n ze))[j]? = (flatE (List.replicate n ze))[j / 2 * 2 + 1]? by rw [← e], hg.2]
      simp [madeCells, hj, h3, ze]
  · rw [List.getElem?_eq_none (by simp [madeCells]; omega), List.getElem?_eq_none (by rw [flatE_len]; simp; omega)]

def szE (t : Ent) : Prop := t.key.size ≤ 1048576
def maxE (t : Ent) : Prop := t.key.size ≤ maxLen
theorem take_allE (p : Ent → Prop) (l : List Ent) (k : Nat) (h : k < l.length) (h1 : ∀ v ∈ l.take k, p v) (h2 : p l[k]) : ∀ v ∈ l.take (k + 1), p v := by
  intro v hv
  rw [List.take_succ_eq_append_getElem h] at hv
  rcases List.mem_append.mp hv with hv | hv
  · exact h1 v hv
  · rw [List.mem_singleton.mp hv]; exact h2

end Go.Proofs.Ytmchpaccdnnilaa.Tr

/- Rows of pages, and trees: what the laws' own helpers on them answer. -/
namespace Go.Proofs.Ytmchpaccdnnilaa.Tr
open Go.RowKit
set_option linter.unusedVariables false

/-- A row of pages that stands at a block's head. -/
structure ReadP (w : World) (g : Nat) (f : List Pg) : Prop where
  lt : g < w.heap.size
  cells : ∀ i (h : i < f.length), w.cell? ⟨g, i * 2, none⟩ = some (.int .i64 f[i].num) ∧ ∃ p cap, w.cell? ⟨g, i * 2 + 1, none⟩ = some (.slice p f[i].es.length cap) ∧ InE w p f[i].es
theorem ReadP.next {w w' : World} {g : Nat} {f : List Pg} (h : ReadP w g f) (hb : Below w.heap.size w w') : ReadP w' g f :=
  ⟨Nat.lt_of_lt_of_le h.lt hb.size, fun i hi => by
    obtain ⟨h0, p, cap, hc, hr⟩ := h.cells i hi
    exact ⟨(hb.cell h.lt).trans h0, p, cap, (hb.cell h.lt).trans hc, hr.step hb⟩⟩
/-- A row of pages, a nil one too. -/
def RowP (w : World) (p : Option Addr) (f : List Pg) : Prop := f = [] ∨ ∃ g, p = some ⟨g, 0, none⟩ ∧ ReadP w g f
theorem RowP.next {w w' : World} {p : Option Addr} {f : List Pg} (h : RowP w p f) (hb : Below w.heap.size w w') : RowP w' p f := by
  rcases h with h | ⟨g, hp, hr⟩
  · exact .inl h
  · exact .inr ⟨g, hp, hr.next hb⟩
/-- Pages that came in. -/
def InP (w : World) (a : Option Addr) (f : List Pg) : Prop := f.length = 0 ∨ ∃ b off, a = some ⟨b, off, none⟩ ∧ b < w.heap.size ∧ ∀ i (h : i < f.length), w.cell? ⟨b, off + i * 2, none⟩ = some (.int .i64 f[i].num) ∧ ∃ p cap, w.cell? ⟨b, off + i * 2 + 1, none⟩ = some (.slice p f[i].es.length cap) ∧ InE w p f[i].es
theorem InP.step {w w' : World} {a : Option Addr} {f : List Pg} (h : InP w a f) (hb : Below w.heap.size w w') : InP w' a f := by
  rcases h with h | ⟨b, off, ha, hlt, hc⟩
  · exact .inl h
  · exact .inr ⟨b, off, ha, Nat.lt_of_lt_of_le hlt hb.size, fun i hi => by
      obtain ⟨h0, p, cap, h1, h2⟩ := hc i hi
      exact ⟨(hb.cell hlt).trans h0, p, cap, (hb.cell hlt).trans h1, h2.step hb⟩⟩
def szP (p : Pg) : Prop := p.es.length ≤ 1048576 ∧ ∀ v ∈ p.es, szE v
def maxP (p : Pg) : Prop := p.es.length ≤ maxLen ∧ ∀ v ∈ p.es, maxE v
theorem take_allP (p : Pg → Prop) (l : List Pg) (k : Nat) (h : k < l.length) (h1 : ∀ v ∈ l.take k, p v) (h2 : p l[k]) : ∀ v ∈ l.take (k + 1), p v := by
  intro v hv
  rw [List.take_succ_eq_append_getElem h] at hv
  rcases List.mem_append.mp hv with hv | hv
  · exact h1 v hv
  · rw [List.mem_singleton.mp hv]; exact h2

end Go.Proofs.Ytmchpaccdnnilaa.Tr

/- Trees made out of the laws' own, and trees held against each other: what the laws' helpers answer. -/
namespace Go.Proofs.Ytmchpaccdnnilaa.Tr
open Go.RowKit
set_option linter.unusedVariables false

end Go.Proofs.Ytmchpaccdnnilaa.Tr

/- Copies of entries, and what intervals have. -/
namespace Go.Proofs.Ytmchpaccdnnilaa.Tr
open Go.RowKit
set_option linter.unusedVariables false

theorem infoB : (Try.prog.info? 5).map (fun i => (i.zero, i.size, i.bytes)) = some (some (.int .u8 0), 1, 1) := by kernel_rfl
theorem toList_length (s : ByteArray) : s.data.toList.length = s.size := by rw [Array.length_toList]; rfl
theorem empty_of (s : ByteArray) (h : s.size = 0) : s = em := by
  obtain ⟨⟨l⟩⟩ := s
  cases l with
  | nil => rfl
  | cons a l => simp [ByteArray.size] at h
set_option maxRecDepth 4000 in
set_option maxHeartbeats 1000000 in
theorem clone_none (w : World) : Calls Try.prog 62 #[.string em] w fun e w' => e = .returned (.string em) ∧ Below w.heap.size w w' := by
  go_enter Try.func62, Try.ntmps62
  go_wp2
  go_ret
  exact ⟨rfl, Below.refl _ _⟩
theorem list_of_bytes (s : ByteArray) : (⟨s.data.toList.toArray⟩ : ByteArray) = s := by cases s; simp
set_option maxRecDepth 4000 in
set_option maxHeartbeats 2000000 in
theorem clone_some (s : ByteArray) (w : World) (h0 : 0 < s.size) (hs : s.size ≤ 1048576) :
    Calls Try.prog 62 #[.string s] w fun e w' => e = .returned (.string s) ∧ Below w.heap.size w w' := by
  obtain ⟨i0, hi, hz0, hz1, hz2⟩ := info_parts infoB
  have hone : (Try.prog.info? 5).map (·.size) = some 1 := by rw [hi]; simp [hz1]
  have hcell1 : Try.prog.cellsOf 5 = 1 := by simp [Program.cellsOf, hi, hz1]
  have hll : s.data.toList.length = s.size := toList_length s
  obtain ⟨M, hM, hMs⟩ : ∃ M : Array Value, (∀ W : World, (Instr.makeSlice 22 (.int .i64 (s.size : Int)) (.int .i64 (s.size : Int))).run Try.prog W = .ok (.slice (some ⟨W.heap.size, 0, none⟩) s.size s.size) (W.alloc (.cells M 5))) ∧ M.size = s.size := by
    refine ⟨madeCells (Value.int .u8 0).cells (((s.size : Nat) : Int).toNat * i0.size), fun W => ?_, by rw [size_madeCells, hz1]; simp⟩
    have := run_make (P := Try.prog) W 22 5 i0 (.int .u8 0) Try.underlying22 hi hz0 .i64 .i64 (s.size : Int) (s.size : Int) (by omega) (by omega) (by rw [hz2]; omega) (by omega)
    simpa using this
  have hcopy := Lib.run_copy_row_string (P := Try.prog) (w.alloc (.cells M 5)) 22 9 3 5 w.heap.size 0 s.size s.size s M 5 Try.underlying22 hone (heap_alloc_new w _) (Nat.le_refl _) (by omega)
  obtain ⟨Y, hY, hYl⟩ : ∃ Y : Array Value, Y = (M.toList.take 0 ++ Lib.byteCells s.data.toList ++ M.toList.drop (0 + s.size)).toArray ∧ Y.toList = Lib.byteCells s.data.toList :=
    ⟨_, rfl, by rw [List.toList_toArray, List.take_zero, List.nil_append, List.drop_of_length_le (by rw [Array.length_toList]; omega), List.append_nil]⟩
  rw [← hY] at hcopy
  have hYs : Y.size = s.size := by rw [← Array.length_toList, hYl, Lib.byteCells_length, hll]
  have hrow : ((w.alloc (.cells M 5)).setRow w.heap.size Y).heap[w.heap.size]? = some (.cells Y 5 (0, 0)) := setRow_heap _ _ M _ 5 (0, 0) (heap_alloc_new w _)
  have hun := Lib.run_unsafeString_row (P := Try.prog) ((w.alloc (.cells M 5)).setRow w.heap.size Y) 118 3 9 5 Try.underlying118 hcell1 w.heap.size Y.size (by unfold World.shape?; rw [hrow]) s.data.toList (fun e => by rw [e] at hll; simp at hll; omega) (by omega) (by omega)
    (fun j x hx => Lib.cells_of_row hrow Y.size j _ (by rw [List.take_of_length_le (by rw [Array.length_toList]; exact Nat.le_refl _), hYl]; simp [Lib.byteCells, hx]))
  rw [hll, list_of_bytes] at hun
  have b1 : Below w.heap.size w (w.alloc (.cells M 5)) := (Below.refl _ w).alloc (Nat.le_refl _) _
  have b2 : Below w.heap.size (w.alloc (.cells M 5)) ((w.alloc (.cells M 5)).setRow w.heap.size Y) := ⟨rfl, rfl, rfl, by simp, fun k hk => setRow_other _ _ _ _ (by omega)⟩
  have HB : Hid _ := Lib.below_freeze (b1.trans b2) (p := ⟨w.heap.size, 0, none⟩) (Nat.le_refl _) s.size
  clear hY b1 b2
  go_enter Try.func62, Try.ntmps62
  go_wp2
  go_ret
  exact ⟨rfl, HB.out⟩
theorem clone_any (s : ByteArray) (w : World) (hs : s.size ≤ 1048576) :
    Calls Try.prog 62 #[.string s] w fun e w' => e = .returned (.string s) ∧ Below w.heap.size w w' := by
  by_cases h : 0 < s.size
  · exact clone_some s w h hs
  · obtain rfl := empty_of s (by omega)
    exact clone_none w
theorem strClone_any (s : ByteArray) (w : World) (hs : s.size ≤ 1048576) :
    Calls Try.prog 30 #[.string s] w fun e w' => e = .returned (.string s) ∧ Below w.heap.size w w' := by
  go_enter Try.func30, Try.ntmps30
  go_wp2_with (go_at_call 62; refine (clone_any s _ hs).mono ?_; rintro e w1 ⟨rfl, hb⟩)
  go_ret
  exact ⟨rfl, hb⟩

/-- An interval of texts. -/
structure Ivl where
  lo : ByteArray
  hi : ByteArray
  op : Bool
def hasI (i : Ivl) (key : ByteArray) : Bool := (Op.bytesLess i.lo.toList key.toList || i.lo.toList == key.toList) && (i.op || Op.bytesLess key.toList i.hi.toList)
def hasP (i : Ivl) (key : ByteArray) : Bool := decide (key.size ≤ 65536) && hasI i key

end Go.Proofs.Ytmchpaccdnnilaa.Tr

/- Marks on rows of entries: what the laws' helpers answer, and which memory they change. -/
namespace Go.Proofs.Ytmchpaccdnnilaa.Tr
open Go.RowKit
set_option linter.unusedVariables false

/-- From w to w' all that lay in w is as it was, but in blocks from lo on, below hi. -/
structure Chg (lo hi : Nat) (w w' : World) : Prop where
  os : w'.os = w.os
  tape : w'.tape = w.tape
  output : w'.output = w.output
  size : w.heap.size ≤ w'.heap.size
  block : ∀ k, k < w.heap.size → (k < lo ∨ hi ≤ k) → w'.heap[k]? = w.heap[k]?
theorem Chg.refl (lo hi : Nat) (w : World) : Chg lo hi w w := ⟨rfl, rfl, rfl, Nat.le_refl _, fun _ _ _ => rfl⟩
theorem Chg.trans {lo hi : Nat} {a b c : World} (h : Chg lo hi a b) (k : Chg lo hi b c) : Chg lo hi a c :=
  ⟨k.os.trans h.os, k.tape.trans h.tape, k.output.trans h.output, Nat.le_trans h.size k.size, fun i hi ho => (k.block i (Nat.lt_of_lt_of_le hi h.size) ho).trans (h.block i hi ho)⟩
theorem Chg.of_below {lo hi : Nat} {w w' : World} (h : Below w.heap.size w w') : Chg lo hi w w' := ⟨h.os, h.tape, h.output, h.size, fun k hk _ => h.block k hk⟩
theorem Chg.of_grown {lo hi : Nat} {w w' : World} {row : Option Nat} (h : w.grownBy w' row) (hr : ∀ b, row = some b → lo ≤ b ∧ b < hi) : Chg lo hi w w' :=
  ⟨h.os, h.tape, h.output, h.size, fun k hk ho => h.block k hk (fun e => by have := hr k e.symm; omega)⟩
theorem Chg.below {lo hi B : Nat} {w w' : World} (h : Chg lo hi w w') (hB : B ≤ lo) (hs : B ≤ w.heap.size) : Below B w w' :=
  ⟨h.os, h.tape, h.output, h.size, fun k hk => h.block k (by omega) (.inl (by omega))⟩
theorem Chg.owns {lo hi : Nat} {w w' : World} (h : Chg lo hi w w') {base : Nat} {e : TypeId} {size : Nat} {v : Value} {n : Nat} {xs : List Value} (ho : w.ownsRow base e size v n xs) (hout : ∀ g, v.ownBlock = some g → g < lo ∨ hi ≤ g) : w'.ownsRow base e size v n xs := by
  have hlt := ho.lt
  obtain ⟨h1, h2⟩ := ho
  refine ⟨h1, ?_⟩
  rcases h2 with h2 | ⟨g, cap, cur, hv, hg, hh, r⟩
  · exact .inl h2
  · have hb : v.ownBlock = some g := by rw [hv]; rfl
    exact .inr ⟨g, cap, cur, hv, hg, by rw [h.block g (hlt g hb).2 (hout g hb)]; exact hh, r⟩
theorem Chg.cell {lo hi : Nat} {w w' : World} (h : Chg lo hi w w') {b o : Nat} (hb : b < w.heap.size) (ho : b < lo ∨ hi ≤ b) : w'.cell? ⟨b, o, none⟩ = w.cell? ⟨b, o, none⟩ := World.cell?_of_block (h.block b hb ho)
theorem grown_below {w w' : World} {row : Option Nat} (h : Below w.heap.size w w') : w.grownBy w' row := ⟨h.os, h.tape, h.output, h.size, fun k hk _ => h.block k hk⟩
theorem grown_trans {a b c : World} {row : Option Nat} (h : a.grownBy b row) (k : b.grownBy c row) : a.grownBy c row :=
  ⟨k.os.trans h.os, k.tape.trans h.tape, k.output.trans h.output, Nat.le_trans h.size k.size, fun i hi hne => (k.block i (Nat.lt_of_lt_of_le hi h.size) hne).trans (h.block i hi hne)⟩
theorem grown_refl (a : World) (row : Option Nat) : a.grownBy a row := ⟨rfl, rfl, rfl, Nat.le_refl _, fun _ _ _ => rfl⟩

def txt (zs : List Int) : ByteArray := strOfNums zs
theorem txt_size (z : Int) : (txt [z]).size = 1 := by rfl
/-- The digits of a number ahead of a text. -/
def digs (k : Nat) (out : ByteArray) : ByteArray := if h : k = 0 then out else digs (k / 10) (txt [48 + (k : Int) % 10] ++ out)
  termination_by k
  decreasing_by omega
theorem digs_zero (out : ByteArray) : digs 0 out = out := by rw [digs]; simp
theorem digs_pos (k : Nat) (out : ByteArray) (h : 0 < k) : digs k out = digs (k / 10) (txt [48 + (k : Int) % 10] ++ out) := by
  rw [digs, dif_neg (by omega)]
/-- The text of a mark. -/
def mt (k : Nat) : ByteArray := (⟨#[109]⟩ : ByteArray) ++ digs k em
theorem conv1 (W : World) (z : Int) : (convert 22 9 (.slice (some ⟨W.heap.size, 0, none⟩) 1 1)).run Try.prog (W.alloc (.cells #[.int .u8 z] 5)) = .ok (.string (txt [z])) (W.alloc (.cells #[.int .u8 z] 5)) :=
  run_convert_bytes_arg _ 22 5 Try.underlying22 Try.underlying5 W.heap.size 0 1 1 [z] rfl (fun i hi => by
    have : i = 0 := by omega
    subst this
    simp [go_sem]) 9 Try.underlying9
set_option maxRecDepth 4000 in
set_option maxHeartbeats 1000000 in
theorem markText_any (k : Nat) (h1 : 1 ≤ k) (h2 : k ≤ 17592186044416) (w : World) :
    Calls Try.prog 66 #[.int .i64 k] w fun e w' => e = .returned (.string (mt k)) ∧ Below w.heap.size w w' := by
  have hp : ¬ ((k : Int) ≤ 0) := by omega
  go_enter Try.func66, Try.ntmps66
  go_wp2_with fail
  go_loopw [0, 3] (fun i u wr => ∃ (j : Nat) (out : ByteArray), i = .int .i64 j ∧ u = .string out ∧ digs j out = digs k em ∧ out.size + j ≤ k ∧ Below w.heap.size w wr) (fun i _ _ => (intOf i).toNat)
  case atStart => exact ⟨k, em, rfl, rfl, rfl, by simp [ByteArray.size], Below.refl _ _⟩
  case round =>
    obtain ⟨j, out, rfl, rfl, hd, hsz, hbel⟩ := hrel
    have HD : Hid _ := hd
    clear hd
    have hz := hbel.size
    by_cases hj : 0 < j
    · have hj' : (0 : Int) < (j : Int) := by omega
      have ht : (txt [48 + (j : Int) % 10]).size = 1 := txt_size _
      have hc := conv1 wr (48 + (j : Int) % 10)
      have hm : Int.tmod (j : Int) 10 = (j : Int) % 10 := Int.tmod_eq_emod_of_nonneg (by omega)
      have hq : Int.tdiv (j : Int) 10 = (j : Int) / 10 := Int.tdiv_eq_ediv_of_nonneg (by omega)
      go_wp2_with fail
      go_roundw
      case rel => exact ⟨j / 10, txt [48 + (j : Int) % 10] ++ out, by go_num, rfl, by rw [← digs_pos j out hj]; exact HD.out, by rw [ByteArray.size_append, ht]; omega, by (repeat (first | (with_reducible exact Below.refl _ _) | (with_reducible assumption) | (with_reducible apply below_drewN) | (with_reducible apply Below.drew) | ((with_reducible refine Below.setCell ?_ ?_ _); rotate_left; focus (first | (simp; done) | (simp; omega) | omega)) | ((with_reducible refine Below.alloc ?_ ?_ _); rotate_left; focus (first | (simp; done) | (simp; omega) | omega))))⟩
      case measure => simp [intOf]; omega
    · have hj0 : j = 0 := by omega
      subst hj0
      have e : out = digs k em := by rw [← HD.out, digs_zero]
      subst e
      clear HD
      go_wp2_with fail
      go_ret
      exact ⟨rfl, hbel⟩

/-- The entry that marks place number i, from number q on. -/
def markE (q i : Nat) : Ent := ⟨mt (q + 2 * i), (q : Int) + 2 * (i : Int) + 1⟩
def marksE (q n : Nat) : List Ent := (List.range n).map (markE q)
theorem marksE_len (q n : Nat) : (marksE q n).length = n := by unfold marksE; simp
theorem marksE_get (q n i : Nat) (h : i < (marksE q n).length) : (marksE q n)[i] = markE q i := by simp [marksE]
/-- The first k places marked. -/
def markMixE (q : Nat) (l : List Ent) (k : Nat) : List Ent := marksE q k ++ l.drop k
theorem markMixE_len (q : Nat) (l : List Ent) (k : Nat) (h : k ≤ l.length) : (markMixE q l k).length = l.length := by unfold markMixE; rw [List.length_append, marksE_len, List.length_drop]; omega
theorem markMixE_zero (q : Nat) (l : List Ent) : markMixE q l 0 = l := by unfold markMixE marksE; simp
theorem markMixE_full (q : Nat) (l : List Ent) : markMixE q l l.length = marksE q l.length := by unfold markMixE; simp
theorem markMixE_set (q : Nat) (l : List Ent) (k : Nat) (h : k < l.length) : (markMixE q l k).set k (markE q k) = markMixE q l (k + 1) := by
  unfold markMixE
  rw [List.set_append_right _ _ (by rw [marksE_len]; omega), marksE_len, Nat.sub_self]
  have e : marksE q (k + 1) = marksE q k ++ [markE q k] := by unfold marksE; rw [List.range_succ, List.map_append]; rfl
  rw [e, List.append_assoc]
  congr 1
  rw [List.drop_eq_getElem_cons h]; rfl

end Go.Proofs.Ytmchpaccdnnilaa.Tr

/- Rows of texts of an answer's own: what the laws' marks on them answer. -/
namespace Go.Proofs.Ytmchpaccdnnilaa.Tr
open Go.RowKit
set_option linter.unusedVariables false

theorem infoStr : (Try.prog.info? 9).map (fun i => (i.zero, i.size, i.bytes)) = some (some (.string em), 1, 16) := by kernel_rfl
def strV (l : List ByteArray) : List Value := l.map Value.string
theorem strV_len (l : List ByteArray) : (strV l).length = l.length := by unfold strV; simp
theorem strV_get (l : List ByteArray) (i : Nat) (h : i < l.length) : (strV l)[i]? = some (.string l[i]) := by unfold strV; rw [List.getElem?_map, List.getElem?_eq_getElem h]; rfl
theorem strV_set (l : List ByteArray) (k : Nat) (t : ByteArray) : (strV l).set k (.string t) = strV (l.set k t) := by unfold strV; rw [List.map_set]
theorem strV_app (a b : List ByteArray) : strV (a ++ b) = strV a ++ strV b := by unfold strV; simp
def OwnS (w : World) (base : Nat) (v : Value) (l : List ByteArray) : Prop := w.ownsRow base 9 1 v l.length (strV l)
/-- Texts in a row. -/
def InT1 (w : World) (a : Option Addr) (l : List ByteArray) : Prop := l.length = 0 ∨ ∃ g, a = some ⟨g, 0, none⟩ ∧ g < w.heap.size ∧ ∀ i (h : i < l.length), w.cell? ⟨g, i, none⟩ = some (.string l[i])
theorem InT1.step {w w' : World} {a : Option Addr} {l : List ByteArray} (h : InT1 w a l) (hb : Below w.heap.size w w') : InT1 w' a l := by
  rcases h with h | ⟨g, ha, hl, hc⟩
  · exact .inl h
  · exact .inr ⟨g, ha, Nat.lt_of_lt_of_le hl hb.size, fun i hi => (hb.cell hl).trans (hc i hi)⟩
theorem OwnS.form {w : World} {base : Nat} {v : Value} {l : List ByteArray} (h : OwnS w base v l) : (v = .slice none 0 0 ∧ l = []) ∨ ∃ g cap, v = .slice (some ⟨g, 0, none⟩) l.length cap ∧ base ≤ g ∧ g < w.heap.size := by
  have hlt := World.ownsRow.lt h
  obtain ⟨h1, h2⟩ := h
  rcases h2 with ⟨hv, h0⟩ | ⟨g, cap, cur, hv, hg, hh, r⟩
  · exact .inl ⟨hv, List.length_eq_zero_iff.1 h0⟩
  · exact .inr ⟨g, cap, hv, hg, (hlt g (by rw [hv]; rfl)).2⟩
theorem OwnS.in1 {w : World} {base : Nat} {v : Value} {l : List ByteArray} (h : OwnS w base v l) : ∃ p cap, v = .slice p l.length cap ∧ InT1 w p l := by
  rcases h.form with ⟨rfl, rfl⟩ | ⟨g, cap, rfl, _, hg⟩
  · exact ⟨none, 0, rfl, .inl rfl⟩
  · exact ⟨_, cap, rfl, .inr ⟨g, rfl, hg, fun i hi => owns_cell h i _ (strV_get l i hi)⟩⟩
def marksS (q n : Nat) : List ByteArray := (List.range n).map fun i => mt (q + i)
theorem marksS_len (q n : Nat) : (marksS q n).length = n := by unfold marksS; simp
theorem marksS_get (q n i : Nat) (h : i < (marksS q n).length) : (marksS q n)[i] = mt (q + i) := by simp [marksS]
def markMixS (q : Nat) (l : List ByteArray) (k : Nat) : List ByteArray := marksS q k ++ l.drop k
theorem markMixS_len (q : Nat) (l : List ByteArray) (k : Nat) (h : k ≤ l.length) : (markMixS q l k).length = l.length := by unfold markMixS; rw [List.length_append, marksS_len, List.length_drop]; omega
theorem markMixS_zero (q : Nat) (l : List ByteArray) : markMixS q l 0 = l := by unfold markMixS marksS; simp
theorem markMixS_full (q : Nat) (l : List ByteArray) : markMixS q l l.length = marksS q l.length := by unfold markMixS; simp
theorem markMixS_set (q : Nat) (l : List ByteArray) (k : Nat) (h : k < l.length) : (markMixS q l k).set k (mt (q + k)) = markMixS q l (k + 1) := by
  unfold markMixS
  rw [List.set_append_right _ _ (by rw [marksS_len]; omega), marksS_len, Nat.sub_self]
  have e : marksS q (k + 1) = marksS q k ++ [mt (q + k)] := by unfold marksS; rw [List.range_succ, List.map_append]; rfl
  rw [e, List.append_assoc]
  congr 1
  rw [List.drop_eq_getElem_cons h]; rfl

end Go.Proofs.Ytmchpaccdnnilaa.Tr

/- What the specification's test of entries and of trees answers. -/
namespace Go.Proofs.Ytmchpaccdnnilaa.Tr
open Go.RowKit
set_option linter.unusedVariables false

theorem lessE_def (k k' : ByteArray) (i i' : Int) : lessE ⟨k, i⟩ ⟨k', i'⟩ = (Op.bytesLess k.toList k'.toList || (k.toList == k'.toList && decide (i < i'))) := rfl
set_option maxHeartbeats 1000000 in
theorem in_any (x a b : Int) (w : World) : Calls Try.prog 84 #[.int .i64 x, .int .i64 a, .int .i64 b] w fun e w' => e = .returned (.bool (decide (a ≤ x) && decide (x ≤ b))) ∧ w' = w := by
  by_cases h1 : a ≤ x <;> by_cases h2 : x ≤ b
  all_goals
    simp only [h1, h2, decide_true, decide_false, Bool.true_and, Bool.false_and]
    go_enter Try.func84, Try.ntmps84
    go_wp2_with fail
    go_ret
    exact ⟨rfl, rfl⟩

end Go.Proofs.Ytmchpaccdnnilaa.Tr

/- What the specification's parting of a text into keys answers. -/
namespace Go.Proofs.Ytmchpaccdnnilaa.Tr
open Go.RowKit
set_option linter.unusedVariables false

theorem ne_list2 (s : ByteArray) (h : 0 < s.size) : ¬ s.toList = [] ∧ s.toList.isEmpty = false := by
  have h1 : s.toList.length = s.size := by rw [ByteArray.toList_eq, toList_length]
  have h2 : ¬ s.toList = [] := fun e => by rw [e] at h1; simp at h1; omega
  exact ⟨h2, by rw [← Bool.not_eq_true, List.isEmpty_iff]; exact h2⟩
/-- What both answer: the keys, and the code. -/
def splL (s : ByteArray) (n : Int) : List ByteArray := if 65536 < s.size then [] else if 0 ≤ n ∧ n ≤ 8 then (splB s n.toNat).getD [] else []
def splC (s : ByteArray) (n : Int) : Int := if 65536 < s.size then 2 else if 0 ≤ n ∧ n ≤ 8 then (if (splB s n.toNat).isSome then 0 else 3) else 4
structure SplR (s : ByteArray) (n : Int) (w : World) (e : Ending) (w' : World) : Prop where
  out : ∃ v, e = .returned (.tuple #[v, .int .i64 (splC s n)]) ∧ OwnS w' w.heap.size v (splL s n)
  bel : Below w.heap.size w w'
theorem SplR.long {s : ByteArray} {n : Int} {w w' : World} {v : Value} (h : 65536 < s.size) (ho : OwnS w' w.heap.size v []) (hb : Below w.heap.size w w') : SplR s n w (.returned (.tuple #[v, .int .i64 2])) w' :=
  ⟨⟨v, by unfold splC; rw [if_pos h], by unfold splL; rw [if_pos h]; exact ho⟩, hb⟩
theorem SplR.range {s : ByteArray} {n : Int} {w w' : World} {v : Value} (h : ¬ 65536 < s.size) (hn : ¬ (0 ≤ n ∧ n ≤ 8)) (ho : OwnS w' w.heap.size v []) (hb : Below w.heap.size w w') : SplR s n w (.returned (.tuple #[v, .int .i64 4])) w' :=
  ⟨⟨v, by unfold splC; rw [if_neg h, if_neg hn], by unfold splL; rw [if_neg h, if_neg hn]; exact ho⟩, hb⟩
theorem SplR.form {s : ByteArray} {n : Int} {w w' : World} {v : Value} (h : ¬ 65536 < s.size) (hn : 0 ≤ n ∧ n ≤ 8) (hk : splB s n.toNat = none) (ho : OwnS w' w.heap.size v []) (hb : Below w.heap.size w w') : SplR s n w (.returned (.tuple #[v, .int .i64 3])) w' :=
  ⟨⟨v, by unfold splC; rw [if_neg h, if_pos hn, hk]; rfl, by unfold splL; rw [if_neg h, if_pos hn, hk]; exact ho⟩, hb⟩
theorem SplR.good {s : ByteArray} {n : Int} {w w' : World} {v : Value} {l : List ByteArray} (h : ¬ 65536 < s.size) (hn : 0 ≤ n ∧ n ≤ 8) (hk : splB s n.toNat = some l) (ho : OwnS w' w.heap.size v l) (hb : Below w.heap.size w w') : SplR s n w (.returned (.tuple #[v, .int .i64 0])) w' :=
  ⟨⟨v, by unfold splC; rw [if_neg h, if_pos hn, hk]; rfl, by unfold splL; rw [if_neg h, if_pos hn, hk]; exact ho⟩, hb⟩

/-- k of N keys are read: those before, and what is left. -/
def Mid (s : ByteArray) (N k : Nat) (done : List ByteArray) (rest : ByteArray) : Prop :=
  done.length = k ∧ k ≤ N ∧ rest.size ≤ s.size ∧ splitK s.size N s = (splitK s.size (N - k) rest).map fun r => (done ++ r.1, r.2)
theorem Mid.start (s : ByteArray) (N : Nat) : Mid s N 0 [] s := ⟨rfl, Nat.zero_le _, Nat.le_refl _, by simp⟩
theorem Mid.bad {s : ByteArray} {N k : Nat} {done : List ByteArray} {rest : ByteArray} (h : Mid s N k done rest) (hk : k < N) (h0 : lenK s.size rest = 0) : splB s N = none := by
  obtain ⟨_, _, _, h4⟩ := h
  unfold splB
  rw [h4, show N - k = (N - k - 1) + 1 by omega, splitK, if_pos h0]; rfl
theorem Mid.next {s : ByteArray} {N k : Nat} {done : List ByteArray} {rest : ByteArray} (h : Mid s N k done rest) (hk : k < N) (L : Nat) (hL : lenK s.size rest = L) (h0 : L ≠ 0) : Mid s N (k + 1) (done ++ [rest.extract 0 L]) (from_ rest L) := by
  obtain ⟨h1, h2, h3, h4⟩ := h
  subst hL
  refine ⟨by simp [h1], by omega, by rw [from_size]; omega, ?_⟩
  rw [h4, show N - k = (N - (k + 1)) + 1 by omega, splitK, if_neg h0, Option.map_map]
  congr 1
  funext r
  simp
theorem Mid.left {s : ByteArray} {N : Nat} {done : List ByteArray} {rest : ByteArray} (h : Mid s N N done rest) (h0 : 0 < rest.size) : splB s N = none := by
  obtain ⟨_, _, _, h4⟩ := h
  unfold splB
  rw [h4, Nat.sub_self, splitK]
  show (if rest.size = 0 then some (done ++ []) else none) = none
  rw [if_neg (by omega)]
theorem Mid.fin {s : ByteArray} {N : Nat} {done : List ByteArray} {rest : ByteArray} (h : Mid s N N done rest) (h0 : rest.size = 0) : splB s N = some done := by
  obtain ⟨_, _, _, h4⟩ := h
  unfold splB
  rw [h4, Nat.sub_self, splitK]
  show (if rest.size = 0 then some (done ++ []) else none) = some done
  rw [if_pos h0, List.append_nil]
theorem own_made (w : World) (base : Nat) (h : base ≤ w.heap.size) : OwnS (w.alloc (.cells #[] 9)) base (.slice (some ⟨w.heap.size, 0, none⟩) 0 0) [] := World.ownsRow_made w #[] 0 h (by unfold maxLen; omega) rfl

end Go.Proofs.Ytmchpaccdnnilaa.Tr
