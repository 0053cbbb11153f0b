/- What all that lies in some blocks alone changes; small facts. -/
import Derived.Test.YthjimbnpkkpbkaaGreatDoorTrB
namespace Go.Proofs.YthjimbnpkkpbkaaGreatDoor.Tr
open Go.RowKit
set_option linter.unusedVariables false

theorem ret_bool' {a b : Bool} (h : a = b) : Ending.returned (.bool a) = .returned (.bool b) := by rw [h]
theorem addO (b off i : Nat) : (⟨b, off, none⟩ : Addr).add i = ⟨b, off + i, none⟩ := by unfold Addr.add; split <;> simp_all
/-- From w to w' all that lay in w is as it was, but in blocks from lo on, below hi. -/
structure Chg (lo hi : Nat) (w w' : World) : Prop where
  os : w'.os = w.os
  tape : w'.tape = w.tape
  output : w'.output = w.output
  size : w.heap.size ≤ w'.heap.size
  block : ∀ k, k < w.heap.size → (k < lo ∨ hi ≤ k) → w'.heap[k]? = w.heap[k]?
theorem Chg.refl (lo hi : Nat) (w : World) : Chg lo hi w w := ⟨rfl, rfl, rfl, Nat.le_refl _, fun _ _ _ => rfl⟩
theorem Chg.trans {lo hi : Nat} {a b c : World} (h : Chg lo hi a b) (k : Chg lo hi b c) : Chg lo hi a c :=
  ⟨k.os.trans h.os, k.tape.trans h.tape, k.output.trans h.output, Nat.le_trans h.size k.size, fun i hi ho => (k.block i (Nat.lt_of_lt_of_le hi h.size) ho).trans (h.block i hi ho)⟩
theorem Chg.of_below {lo hi : Nat} {w w' : World} (h : Below w.heap.size w w') : Chg lo hi w w' := ⟨h.os, h.tape, h.output, h.size, fun k hk _ => h.block k hk⟩
theorem Chg.of_grown {lo hi : Nat} {w w' : World} {row : Option Nat} (h : w.grownBy w' row) (hr : ∀ b, row = some b → lo ≤ b ∧ b < hi) : Chg lo hi w w' :=
  ⟨h.os, h.tape, h.output, h.size, fun k hk ho => h.block k hk (fun e => by have := hr k e.symm; omega)⟩
theorem Chg.below {lo hi B : Nat} {w w' : World} (h : Chg lo hi w w') (hB : B ≤ lo) (hs : B ≤ w.heap.size) : Below B w w' :=
  ⟨h.os, h.tape, h.output, h.size, fun k hk => h.block k (by omega) (.inl (by omega))⟩
theorem Chg.owns {lo hi : Nat} {w w' : World} (h : Chg lo hi w w') {base : Nat} {e : TypeId} {size : Nat} {v : Value} {n : Nat} {xs : List Value} (ho : w.ownsRow base e size v n xs) (hout : ∀ g, v.ownBlock = some g → g < lo ∨ hi ≤ g) : w'.ownsRow base e size v n xs := by
  have hlt := ho.lt
  obtain ⟨h1, h2⟩ := ho
  refine ⟨h1, ?_⟩
  rcases h2 with h2 | ⟨g, cap, cur, hv, hg, hh, r⟩
  · exact .inl h2
  · have hb : v.ownBlock = some g := by rw [hv]; rfl
    exact .inr ⟨g, cap, cur, hv, hg, by rw [h.block g (hlt g hb).2 (hout g hb)]; exact hh, r⟩
theorem Chg.cell {lo hi : Nat} {w w' : World} (h : Chg lo hi w w') {b o : Nat} (hb : b < w.heap.size) (ho : b < lo ∨ hi ≤ b) : w'.cell? ⟨b, o, none⟩ = w.cell? ⟨b, o, none⟩ := World.cell?_of_block (h.block b hb ho)

end Go.Proofs.YthjimbnpkkpbkaaGreatDoor.Tr

/- Rows of entries: what the laws' own helpers on them answer. -/
namespace Go.Proofs.YthjimbnpkkpbkaaGreatDoor.Tr
open Go.RowKit
set_option linter.unusedVariables false

def ze : Ent := ⟨em, 0⟩
def rowE (t : Ent) : List Value := [.string t.key, .int .i64 t.id]
def flatE (l : List Ent) : List Value := l.flatMap rowE
theorem flatE_snoc (l : List Ent) (f : Ent) : flatE (l ++ [f]) = flatE l ++ rowE f := by unfold flatE; simp
theorem flatE_app (a b : List Ent) : flatE (a ++ b) = flatE a ++ flatE b := by unfold flatE; simp
theorem flatE_cons (v : Ent) (l : List Ent) : flatE (v :: l) = .string v.key :: .int .i64 v.id :: flatE l := rfl
theorem flatE_len (l : List Ent) : (flatE l).length = l.length * 2 := by
  induction l with
  | nil => rfl
  | cons v l ih => rw [flatE_cons]; simp [ih]; omega
theorem flatE_get : ∀ (l : List Ent) (i : Nat) (h : i < l.length), (flatE l)[i * 2]? = some (.string l[i].key) ∧ (flatE l)[i * 2 + 1]? = some (.int .i64 l[i].id)
  | v :: l, 0, _ => ⟨rfl, rfl⟩
  | v :: l, i + 1, h => by
    have ih := flatE_get l i (by simpa using h)
    have e : flatE (v :: l) = rowE v ++ flatE l := by unfold flatE; simp
    rw [e, show (i + 1) * 2 = i * 2 + 2 by omega]
    have hl : (rowE v).length = 2 := rfl
    refine ⟨?_, ?_⟩
    · rw [List.getElem?_append_right (by omega), hl]; simpa using ih.1
    · rw [List.getElem?_append_right (by omega), hl, show i * 2 + 2 + 1 - 2 = i * 2 + 1 by omega]; simpa using ih.2
theorem flatE_set : ∀ (l : List Ent) (k : Nat) (v : Ent), k < l.length → ((flatE l).set (k * 2) (.string v.key)).set (k * 2 + 1) (.int .i64 v.id) = flatE (l.set k v)
  | [], k, v, h => by simp at h
  | u :: l, 0, v, _ => rfl
  | u :: l, k + 1, v, h => by
    rw [List.set_cons_succ, flatE_cons, flatE_cons, ← flatE_set l k v (by simpa using h)]
    rw [show (k + 1) * 2 = k * 2 + 1 + 1 by omega]
    rfl
/-- A row of entries that stands at a block's head. -/
structure ReadE (w : World) (g : Nat) (l : List Ent) : Prop where
  lt : g < w.heap.size
  cells : ∀ i (h : i < l.length), w.cell? ⟨g, i * 2, none⟩ = some (.string l[i].key) ∧ w.cell? ⟨g, i * 2 + 1, none⟩ = some (.int .i64 l[i].id)
theorem ReadE.step {w w' : World} {g base : Nat} {l : List Ent} (h : ReadE w g l) (hb : Below base w w') (hg : g < base) : ReadE w' g l :=
  ⟨Nat.lt_of_lt_of_le h.lt hb.size, fun i hi => ⟨(hb.cell hg).trans (h.cells i hi).1, (hb.cell hg).trans (h.cells i hi).2⟩⟩
theorem ReadE.next {w w' : World} {g : Nat} {l : List Ent} (h : ReadE w g l) (hb : Below w.heap.size w w') : ReadE w' g l := h.step hb h.lt
theorem ReadE.grown {w w' : World} {g : Nat} {l : List Ent} {row : Option Nat} (h : ReadE w g l) (hg : w.grownBy w' row) (hne : some g ≠ row) : ReadE w' g l :=
  ⟨Nat.lt_of_lt_of_le h.lt hg.size, fun i hi => ⟨(World.cell?_of_block (hg.block g h.lt hne)).trans (h.cells i hi).1, (World.cell?_of_block (hg.block g h.lt hne)).trans (h.cells i hi).2⟩⟩
/-- A row of entries, a nil one too. -/
def RowE (w : World) (p : Option Addr) (l : List Ent) : Prop := l = [] ∨ ∃ g, p = some ⟨g, 0, none⟩ ∧ ReadE w g l
theorem RowE.next {w w' : World} {p : Option Addr} {l : List Ent} (h : RowE w p l) (hb : Below w.heap.size w w') : RowE w' p l := by
  rcases h with h | ⟨g, hp, hr⟩
  · exact .inl h
  · exact .inr ⟨g, hp, hr.next hb⟩
/-- Entries that came in. -/
def InE (w : World) (a : Option Addr) (l : List Ent) : Prop := l.length = 0 ∨ ∃ b off, a = some ⟨b, off, none⟩ ∧ b < w.heap.size ∧ ∀ i (h : i < l.length), w.cell? ⟨b, off + i * 2, none⟩ = some (.string l[i].key) ∧ w.cell? ⟨b, off + i * 2 + 1, none⟩ = some (.int .i64 l[i].id)
theorem InE.step {w w' : World} {a : Option Addr} {l : List Ent} (h : InE w a l) (hb : Below w.heap.size w w') : InE w' a l := by
  rcases h with h | ⟨b, off, ha, hlt, hc⟩
  · exact .inl h
  · exact .inr ⟨b, off, ha, Nat.lt_of_lt_of_le hlt hb.size, fun i hi => ⟨(hb.cell hlt).trans (hc i hi).1, (hb.cell hlt).trans (hc i hi).2⟩⟩
theorem ReadE.inE {w : World} {g : Nat} {l : List Ent} (h : ReadE w g l) : InE w (some ⟨g, 0, none⟩) l :=
  .inr ⟨g, 0, rfl, h.lt, fun i hi => by rw [Nat.zero_add]; exact h.cells i hi⟩
theorem InE.grown {w w' : World} {a : Option Addr} {l : List Ent} {row : Option Nat} (h : InE w a l) (hg : w.grownBy w' row) (hne : ∀ b off, a = some ⟨b, off, none⟩ → some b ≠ row) : InE w' a l := by
  rcases h with h | ⟨b, off, ha, hlt, hc⟩
  · exact .inl h
  · have hb := hg.block b hlt (hne b off ha)
    exact .inr ⟨b, off, ha, Nat.lt_of_lt_of_le hlt hg.size, fun i hi => ⟨(World.cell?_of_block hb).trans (hc i hi).1, (World.cell?_of_block hb).trans (hc i hi).2⟩⟩
/-- The first k entries, and zero ones behind them. -/
def mixE (l : List Ent) (k : Nat) : List Ent := l.take k ++ List.replicate (l.length - k) ze
theorem mixE_len (l : List Ent) (k : Nat) (h : k ≤ l.length) : (mixE l k).length = l.length := by unfold mixE; simp; omega
theorem mixE_full (l : List Ent) (k : Nat) (h : l.length ≤ k) : mixE l k = l := by
  unfold mixE; rw [List.take_of_length_le h, Nat.sub_eq_zero_of_le h]; simp
theorem mixE_set (l : List Ent) (k : Nat) (h : k < l.length) : (mixE l k).set k l[k] = mixE l (k + 1) := by
  unfold mixE
  have hl : (l.take k).length = k := by simp; omega
  rw [List.take_succ_eq_append_getElem h, List.append_assoc, List.set_append_right _ _ (by omega)]
  congr 1
  rw [hl, Nat.sub_self]
  obtain ⟨m, hm⟩ : ∃ m, l.length - k = m + 1 := ⟨l.length - k - 1, by omega⟩
  rw [hm, List.replicate_succ, show l.length - (k + 1) = m by omega]
  rfl
theorem made_zeroE (n : Nat) : (madeCells (Value.agg #[.string em, .int .i64 0]).cells (n * 2)).toList = flatE (List.replicate n ze) := by
  apply List.ext_getElem?
  intro j
  by_cases hj : j < n * 2
  · have hg := flatE_get (List.replicate n ze) (j / 2) (by simp; omega)
    simp only [List.getElem_replicate] at hg
    have hc : (Value.agg #[.string em, .int .i64 0]).cells = #[.string em, .int .i64 0] := by rfl
    rw [hc]
    have h3 : j % 2 = 0 ∨ j % 2 = 1 := by omega
    rcases h3 with h3 | h3
    · have e : j = j / 2 * 2 := by omega
      rw [show (flatE (List.replicate n ze))[j]? = (flatE (List.replicate n ze))[j / 2 * 2]? by rw [← e], hg.1]
      simp [madeCells, hj, h3, ze]
    · have e : j = j / 2 * 2 + 1 := by omega
      rw [show (flatE (List.replicate n ze))[j]? = (flatE (List.replicate n ze))[j / 2 * 2 + 1]? by rw [← e], hg.2]
      simp [madeCells, hj, h3, ze]
  · rw [List.getElem?_eq_none (by simp [madeCells]; omega), List.getElem?_eq_none (by rw [flatE_len]; simp; omega)]

def szE (t : Ent) : Prop := t.key.size ≤ 1048576
def maxE (t : Ent) : Prop := t.key.size ≤ maxLen
theorem take_allE (p : Ent → Prop) (l : List Ent) (k : Nat) (h : k < l.length) (h1 : ∀ v ∈ l.take k, p v) (h2 : p l[k]) : ∀ v ∈ l.take (k + 1), p v := by
  intro v hv
  rw [List.take_succ_eq_append_getElem h] at hv
  rcases List.mem_append.mp hv with hv | hv
  · exact h1 v hv
  · rw [List.mem_singleton.mp hv]; exact h2

end Go.Proofs.YthjimbnpkkpbkaaGreatDoor.Tr

/- Rows of pages, and trees: what the laws' own helpers on them answer. -/
namespace Go.Proofs.YthjimbnpkkpbkaaGreatDoor.Tr
open Go.RowKit
set_option linter.unusedVariables false

/-- A row of pages that stands at a block's head. -/
structure ReadP (w : World) (g : Nat) (f : List Pg) : Prop where
  lt : g < w.heap.size
  cells : ∀ i (h : i < f.length), w.cell? ⟨g, i * 2, none⟩ = some (.int .i64 f[i].num) ∧ ∃ p cap, w.cell? ⟨g, i * 2 + 1, none⟩ = some (.slice p f[i].es.length cap) ∧ InE w p f[i].es
theorem ReadP.next {w w' : World} {g : Nat} {f : List Pg} (h : ReadP w g f) (hb : Below w.heap.size w w') : ReadP w' g f :=
  ⟨Nat.lt_of_lt_of_le h.lt hb.size, fun i hi => by
    obtain ⟨h0, p, cap, hc, hr⟩ := h.cells i hi
    exact ⟨(hb.cell h.lt).trans h0, p, cap, (hb.cell h.lt).trans hc, hr.step hb⟩⟩
/-- A row of pages, a nil one too. -/
def RowP (w : World) (p : Option Addr) (f : List Pg) : Prop := f = [] ∨ ∃ g, p = some ⟨g, 0, none⟩ ∧ ReadP w g f
theorem RowP.next {w w' : World} {p : Option Addr} {f : List Pg} (h : RowP w p f) (hb : Below w.heap.size w w') : RowP w' p f := by
  rcases h with h | ⟨g, hp, hr⟩
  · exact .inl h
  · exact .inr ⟨g, hp, hr.next hb⟩
/-- Pages that came in. -/
def InP (w : World) (a : Option Addr) (f : List Pg) : Prop := f.length = 0 ∨ ∃ b off, a = some ⟨b, off, none⟩ ∧ b < w.heap.size ∧ ∀ i (h : i < f.length), w.cell? ⟨b, off + i * 2, none⟩ = some (.int .i64 f[i].num) ∧ ∃ p cap, w.cell? ⟨b, off + i * 2 + 1, none⟩ = some (.slice p f[i].es.length cap) ∧ InE w p f[i].es
theorem InP.step {w w' : World} {a : Option Addr} {f : List Pg} (h : InP w a f) (hb : Below w.heap.size w w') : InP w' a f := by
  rcases h with h | ⟨b, off, ha, hlt, hc⟩
  · exact .inl h
  · exact .inr ⟨b, off, ha, Nat.lt_of_lt_of_le hlt hb.size, fun i hi => by
      obtain ⟨h0, p, cap, h1, h2⟩ := hc i hi
      exact ⟨(hb.cell hlt).trans h0, p, cap, (hb.cell hlt).trans h1, h2.step hb⟩⟩
def szP (p : Pg) : Prop := p.es.length ≤ 1048576 ∧ ∀ v ∈ p.es, szE v
def maxP (p : Pg) : Prop := p.es.length ≤ maxLen ∧ ∀ v ∈ p.es, maxE v
theorem take_allP (p : Pg → Prop) (l : List Pg) (k : Nat) (h : k < l.length) (h1 : ∀ v ∈ l.take k, p v) (h2 : p l[k]) : ∀ v ∈ l.take (k + 1), p v := by
  intro v hv
  rw [List.take_succ_eq_append_getElem h] at hv
  rcases List.mem_append.mp hv with hv | hv
  · exact h1 v hv
  · rw [List.mem_singleton.mp hv]; exact h2

end Go.Proofs.YthjimbnpkkpbkaaGreatDoor.Tr

/- Trees made out of the laws' own, and trees held against each other: what the laws' helpers answer. -/
namespace Go.Proofs.YthjimbnpkkpbkaaGreatDoor.Tr
open Go.RowKit
set_option linter.unusedVariables false

end Go.Proofs.YthjimbnpkkpbkaaGreatDoor.Tr

/- Marks on rows of entries: what the laws' helpers answer, and which memory they change. -/
namespace Go.Proofs.YthjimbnpkkpbkaaGreatDoor.Tr
open Go.RowKit
set_option linter.unusedVariables false

theorem grown_below {w w' : World} {row : Option Nat} (h : Below w.heap.size w w') : w.grownBy w' row := ⟨h.os, h.tape, h.output, h.size, fun k hk _ => h.block k hk⟩
theorem grown_trans {a b c : World} {row : Option Nat} (h : a.grownBy b row) (k : b.grownBy c row) : a.grownBy c row :=
  ⟨k.os.trans h.os, k.tape.trans h.tape, k.output.trans h.output, Nat.le_trans h.size k.size, fun i hi hne => (k.block i (Nat.lt_of_lt_of_le hi h.size) hne).trans (h.block i hi hne)⟩
theorem grown_refl (a : World) (row : Option Nat) : a.grownBy a row := ⟨rfl, rfl, rfl, Nat.le_refl _, fun _ _ _ => rfl⟩

def txt (zs : List Int) : ByteArray := strOfNums zs
theorem txt_size (z : Int) : (txt [z]).size = 1 := by rfl
/-- The digits of a number ahead of a text. -/
def digs (k : Nat) (out : ByteArray) : ByteArray := if h : k = 0 then out else digs (k / 10) (txt [48 + (k : Int) % 10] ++ out)
  termination_by k
  decreasing_by omega
theorem digs_zero (out : ByteArray) : digs 0 out = out := by rw [digs]; simp
theorem digs_pos (k : Nat) (out : ByteArray) (h : 0 < k) : digs k out = digs (k / 10) (txt [48 + (k : Int) % 10] ++ out) := by
  rw [digs, dif_neg (by omega)]
/-- The text of a mark. -/
def mt (k : Nat) : ByteArray := (⟨#[109]⟩ : ByteArray) ++ digs k em
theorem conv1 (W : World) (z : Int) : (convert 95 9 (.slice (some ⟨W.heap.size, 0, none⟩) 1 1)).run Tryz.prog (W.alloc (.cells #[.int .u8 z] 5)) = .ok (.string (txt [z])) (W.alloc (.cells #[.int .u8 z] 5)) :=
  run_convert_bytes_arg _ 95 5 Tryz.underlying95 Tryz.underlying5 W.heap.size 0 1 1 [z] rfl (fun i hi => by
    have : i = 0 := by omega
    subst this
    simp [go_sem]) 9 Tryz.underlying9
set_option maxRecDepth 4000 in
set_option maxHeartbeats 1000000 in
theorem markText_any (k : Nat) (h1 : 1 ≤ k) (h2 : k ≤ 17592186044416) (w : World) :
    Calls Tryz.prog 36 #[.int .i64 k] w fun e w' => e = .returned (.string (mt k)) ∧ Below w.heap.size w w' := by
  have hp : ¬ ((k : Int) ≤ 0) := by omega
  go_enter Tryz.func36, Tryz.ntmps36
  go_wp2_with fail
  go_loopw [0, 3] (fun i u wr => ∃ (j : Nat) (out : ByteArray), i = .int .i64 j ∧ u = .string out ∧ digs j out = digs k em ∧ out.size + j ≤ k ∧ Below w.heap.size w wr) (fun i _ _ => (intOf i).toNat)
  case atStart => exact ⟨k, em, rfl, rfl, rfl, by simp [ByteArray.size], Below.refl _ _⟩
  case round =>
    obtain ⟨j, out, rfl, rfl, hd, hsz, hbel⟩ := hrel
    have HD : Hid _ := hd
    clear hd
    have hz := hbel.size
    by_cases hj : 0 < j
    · have hj' : (0 : Int) < (j : Int) := by omega
      have ht : (txt [48 + (j : Int) % 10]).size = 1 := txt_size _
      have hc := conv1 wr (48 + (j : Int) % 10)
      have hm : Int.tmod (j : Int) 10 = (j : Int) % 10 := Int.tmod_eq_emod_of_nonneg (by omega)
      have hq : Int.tdiv (j : Int) 10 = (j : Int) / 10 := Int.tdiv_eq_ediv_of_nonneg (by omega)
      go_wp2_with fail
      go_roundw
      case rel => exact ⟨j / 10, txt [48 + (j : Int) % 10] ++ out, by go_num, rfl, by rw [← digs_pos j out hj]; exact HD.out, by rw [ByteArray.size_append, ht]; omega, by (repeat (first | (with_reducible exact Below.refl _ _) | (with_reducible assumption) | (with_reducible apply below_drewN) | (with_reducible apply Below.drew) | ((with_reducible refine Below.setCell ?_ ?_ _); rotate_left; focus (first | (simp; done) | (simp; omega) | omega)) | ((with_reducible refine Below.alloc ?_ ?_ _); rotate_left; focus (first | (simp; done) | (simp; omega) | omega))))⟩
      case measure => simp [intOf]; omega
    · have hj0 : j = 0 := by omega
      subst hj0
      have e : out = digs k em := by rw [← HD.out, digs_zero]
      subst e
      clear HD
      go_wp2_with fail
      go_ret
      exact ⟨rfl, hbel⟩

/-- The entry that marks place number i, from number q on. -/
def markE (q i : Nat) : Ent := ⟨mt (q + 2 * i), (q : Int) + 2 * (i : Int) + 1⟩
def marksE (q n : Nat) : List Ent := (List.range n).map (markE q)
theorem marksE_len (q n : Nat) : (marksE q n).length = n := by unfold marksE; simp
theorem marksE_get (q n i : Nat) (h : i < (marksE q n).length) : (marksE q n)[i] = markE q i := by simp [marksE]
/-- The first k places marked. -/
def markMixE (q : Nat) (l : List Ent) (k : Nat) : List Ent := marksE q k ++ l.drop k
theorem markMixE_len (q : Nat) (l : List Ent) (k : Nat) (h : k ≤ l.length) : (markMixE q l k).length = l.length := by unfold markMixE; rw [List.length_append, marksE_len, List.length_drop]; omega
theorem markMixE_zero (q : Nat) (l : List Ent) : markMixE q l 0 = l := by unfold markMixE marksE; simp
theorem markMixE_full (q : Nat) (l : List Ent) : markMixE q l l.length = marksE q l.length := by unfold markMixE; simp
theorem markMixE_set (q : Nat) (l : List Ent) (k : Nat) (h : k < l.length) : (markMixE q l k).set k (markE q k) = markMixE q l (k + 1) := by
  unfold markMixE
  rw [List.set_append_right _ _ (by rw [marksE_len]; omega), marksE_len, Nat.sub_self]
  have e : marksE q (k + 1) = marksE q k ++ [markE q k] := by unfold marksE; rw [List.range_succ, List.map_append]; rfl
  rw [e, List.append_assoc]
  congr 1
  rw [List.drop_eq_getElem_cons h]; rfl

end Go.Proofs.YthjimbnpkkpbkaaGreatDoor.Tr
