/- Entries, pages and trees said plainly: what makes a tree right, and where an entry's page is. Nothing of the program is used here. -/
import Derived.WalkKit
import Derived.Lib.Small
import Derived.Lib.Bytealg
import Derived.Test.YtcggkeleaepebaaGreatDoorProg
import Derived.WalkSpells
import Derived.WalkLawsBesides
import Derived.Deep.QuietTactic
import Derived.BigQuiet
import Derived.Laws.BytesArg
import Derived.Laws.OwnMore
import Derived.Maps.AppendAt
import Derived.Lib.Walk
import Derived.StillTailTactics
import Derived.Deep.Cut
namespace Go.Proofs.YtcggkeleaepebaaGreatDoor.Tr
open Go.RowKit
set_option linter.unusedVariables false

def cB (a b : ByteArray) : Int := Lib.compareBytes a.data.toList b.data.toList
abbrev em : ByteArray := ⟨#[]⟩
abbrev cI (x y : Int) : Int := Lib.compareInt x y
theorem cI_zero (x y : Int) : cI x y = 0 ↔ x = y := by unfold cI Lib.compareInt; constructor <;> intro h <;> (repeat' split at *) <;> omega
theorem cI_range (x y : Int) : -1 ≤ cI x y ∧ cI x y ≤ 1 := by unfold cI Lib.compareInt; (repeat' split) <;> omega
theorem cI_ne (x y : Int) (h : x ≠ y) : cI x y = if y < x then 1 else -1 := by unfold cI Lib.compareInt; (repeat' split) <;> omega
theorem bytes_zero : ∀ a b : List UInt8, Lib.compareBytes a b = 0 ↔ a = b
  | [], [] => by simp [Lib.compareBytes]
  | [], _ :: _ => by simp [Lib.compareBytes]
  | _ :: _, [] => by simp [Lib.compareBytes]
  | a :: l, b :: m => by
    have ih := bytes_zero l m
    unfold Lib.compareBytes
    by_cases h1 : a < b
    · rw [if_pos h1]
      constructor
      · intro h; cases h
      · intro h; injection h with h _; subst h; simp at h1
    · rw [if_neg h1]
      by_cases h2 : b < a
      · rw [if_pos h2]
        constructor
        · intro h; cases h
        · intro h; injection h with h _; subst h; simp at h2
      · rw [if_neg h2, ih]
        have : a = b := by apply UInt8.toNat_inj.mp; simp [UInt8.lt_iff_toNat_lt] at *; omega
        subst this
        simp
theorem bytes_range : ∀ a b : List UInt8, -1 ≤ Lib.compareBytes a b ∧ Lib.compareBytes a b ≤ 1
  | [], [] => by simp [Lib.compareBytes]
  | [], _ :: _ => by simp [Lib.compareBytes]
  | _ :: _, [] => by simp [Lib.compareBytes]
  | a :: l, b :: m => by
    have ih := bytes_range l m
    unfold Lib.compareBytes
    (repeat' split) <;> first | omega | exact ih
theorem bytes_less : ∀ a b : List UInt8, a ≠ b → Lib.compareBytes a b = if Op.bytesLess b a = true then 1 else -1
  | [], [], h => absurd rfl h
  | [], _ :: _, _ => by simp [Lib.compareBytes, Op.bytesLess]
  | _ :: _, [], _ => by simp [Lib.compareBytes, Op.bytesLess]
  | a :: l, b :: m, h => by
    unfold Lib.compareBytes
    by_cases h1 : a < b
    · have h2 : ¬ b < a := by simp [UInt8.lt_iff_toNat_lt] at *; omega
      have h3 : ¬ b = a := by intro e; subst e; simp at h1
      rw [if_pos h1]; simp [Op.bytesLess, h2, h3]
    · rw [if_neg h1]
      by_cases h2 : b < a
      · rw [if_pos h2]; simp [Op.bytesLess, h2]
      · have e : a = b := by apply UInt8.toNat_inj.mp; simp [UInt8.lt_iff_toNat_lt] at *; omega
        subst e
        rw [if_neg h2, bytes_less l m (fun e => h (by rw [e]))]
        simp [Op.bytesLess]
theorem ba_ext {a b : ByteArray} (h : a.data.toList = b.data.toList) : a = b := by apply ByteArray.ext; apply Array.ext'; exact h
theorem cB_zero (a b : ByteArray) : cB a b = 0 ↔ a = b := by
  unfold cB; rw [bytes_zero]
  exact ⟨ba_ext, fun h => by rw [h]⟩
theorem cB_range (a b : ByteArray) : -1 ≤ cB a b ∧ cB a b ≤ 1 := bytes_range _ _
theorem cB_ne (a b : ByteArray) (h : a ≠ b) : cB a b = if Op.bytesLess b.toList a.toList = true then 1 else -1 := by
  unfold cB
  rw [ByteArray.toList_eq, ByteArray.toList_eq]
  exact bytes_less _ _ (fun e => h (ba_ext e))
theorem less_total : ∀ x y : List UInt8, (Op.bytesLess y x || y == x) = !(Op.bytesLess x y)
  | x, [] => by cases x <;> simp [Op.bytesLess]
  | [], b :: y => by simp [Op.bytesLess]
  | a :: x, b :: y => by
    have ih := less_total x y
    simp only [Op.bytesLess]
    by_cases h1 : a < b
    · have h2 : ¬ b < a := by simp [UInt8.lt_iff_toNat_lt] at *; omega
      have h3 : ¬ b = a := by intro e; subst e; simp at h1
      simp [h1, h2, h3]
    · by_cases h4 : b < a
      · have h3 : ¬ a = b := by intro e; subst e; simp at h4
        have h3' : ¬ b = a := fun e => h3 e.symm
        simp [h1, h4, h3]
      · have h3 : a = b := by
          apply UInt8.toNat_inj.mp
          simp [UInt8.lt_iff_toNat_lt] at *; omega
        subst h3
        simpa [h1] using ih
theorem less_trans : ∀ x y z : List UInt8, Op.bytesLess x y = true → Op.bytesLess y z = true → Op.bytesLess x z = true
  | x, [], z, h, _ => by cases x <;> simp [Op.bytesLess] at h
  | x, b :: y, [], _, h => by simp [Op.bytesLess] at h
  | [], b :: y, c :: z, _, _ => by simp [Op.bytesLess]
  | a :: x, b :: y, c :: z, h1, h2 => by
    have ih := less_trans x y z
    simp only [Op.bytesLess] at h1 h2 ⊢
    by_cases hab : a < b
    · by_cases hbc : b < c
      · have : a < c := by simp [UInt8.lt_iff_toNat_lt] at *; omega
        simp [this]
      · have hbc2 : b = c := by
          by_cases hcb : b = c
          · exact hcb
          · simp [hbc, hcb] at h2
        subst hbc2; simp [hab]
    · have hab2 : a = b := by
        by_cases e : a = b
        · exact e
        · simp [hab, e] at h1
      subst hab2
      by_cases hbc : a < c
      · simp [hbc]
      · have hbc2 : a = c := by
          by_cases e : a = c
          · exact e
          · simp [hbc, e] at h2
        subst hbc2
        simp at h1 h2 ⊢
        exact ih h1 h2
theorem less_irrefl : ∀ x : List UInt8, Op.bytesLess x x = false
  | [] => rfl
  | a :: x => by simp [Op.bytesLess, less_irrefl x]
theorem eqL (a b : ByteArray) : (a.toList == b.toList) = true ↔ a = b := by
  rw [beq_iff_eq]
  exact ⟨fun e => ba_ext (by rw [← ByteArray.toList_eq, ← ByteArray.toList_eq]; exact e), fun e => by rw [e]⟩
theorem eqL_false (a b : ByteArray) (h : a ≠ b) : (a.toList == b.toList) = false := by
  rw [Bool.eq_false_iff]; exact fun e => h ((eqL a b).1 e)

/-- An entry, its key as bytes. -/
structure Ent where
  key : ByteArray
  id : Int
/-- A page: its number and its entries. -/
structure Pg where
  num : Int
  es : List Ent
theorem ent_ext {a b : Ent} (h1 : a.key = b.key) (h2 : a.id = b.id) : a = b := by cases a; cases b; simp_all
def lessE (a b : Ent) : Bool := Op.bytesLess a.key.toList b.key.toList || (a.key.toList == b.key.toList && decide (a.id < b.id))
def entB (e : Ent) : Bool := decide (e.key.size ≤ 2000) && (decide (0 ≤ e.id) && decide (e.id ≤ 9999))
def cmpE (a b : Ent) : Int := if cB a.key b.key = 0 then cI a.id b.id else cB a.key b.key
theorem cmpE_key (a b : Ent) (h : a.key ≠ b.key) : cmpE a b = cB a.key b.key := by unfold cmpE; rw [if_neg (fun e => h ((cB_zero _ _).1 e))]
theorem cmpE_id (a b : Ent) (h : a.key = b.key) : cmpE a b = cI a.id b.id := by unfold cmpE; rw [if_pos ((cB_zero _ _).2 h)]
theorem cmpE_le (a b : Ent) : decide (cmpE a b ≤ 0) = !lessE b a := by
  unfold lessE
  by_cases h : a.key = b.key
  · rw [cmpE_id a b h, h, less_irrefl, (eqL _ _).2 rfl]
    unfold cI Lib.compareInt
    by_cases h1 : a.id < b.id
    · rw [if_pos h1]; simp; omega
    · by_cases h2 : b.id < a.id
      · rw [if_neg h1, if_pos h2]; simp [h2]
      · rw [if_neg h1, if_neg h2]; simp; omega
  · rw [cmpE_key a b h, cB_ne a.key b.key h, eqL_false _ _ (fun e => h e.symm)]
    cases Op.bytesLess b.key.toList a.key.toList <;> simp
theorem cmpE_lt (a b : Ent) : decide (cmpE a b < 0) = lessE a b := by
  unfold lessE
  by_cases h : a.key = b.key
  · rw [cmpE_id a b h, h, less_irrefl, (eqL _ _).2 rfl]
    unfold cI Lib.compareInt
    by_cases h1 : a.id < b.id
    · rw [if_pos h1]; simp [h1]
    · by_cases h2 : b.id < a.id
      · rw [if_neg h1, if_pos h2]; simp; omega
      · rw [if_neg h1, if_neg h2]; simp; omega
  · rw [cmpE_key a b h, cB_ne a.key b.key h, eqL_false _ _ h]
    have := less_total a.key.toList b.key.toList
    rw [eqL_false _ _ (fun e => h e.symm)] at this
    cases h2 : Op.bytesLess b.key.toList a.key.toList <;> rw [h2] at this <;> cases h3 : Op.bytesLess a.key.toList b.key.toList <;> simp_all
theorem cmpE_zero (a b : Ent) : cmpE a b = 0 ↔ a = b := by
  by_cases h : a.key = b.key
  · rw [cmpE_id a b h, cI_zero]
    exact ⟨fun e => ent_ext h e, fun e => by rw [e]⟩
  · rw [cmpE_key a b h, cB_zero]
    exact ⟨fun e => absurd e h, fun e => by rw [e]⟩
theorem lessE_irrefl (a : Ent) : lessE a a = false := by unfold lessE; simp [less_irrefl]
theorem lessE_trans {a b c : Ent} (h1 : lessE a b = true) (h2 : lessE b c = true) : lessE a c = true := by
  unfold lessE at *
  simp only [Bool.or_eq_true, Bool.and_eq_true, decide_eq_true_eq, eqL] at *
  rcases h1 with h1 | ⟨e1, h1⟩ <;> rcases h2 with h2 | ⟨e2, h2⟩
  · exact .inl (less_trans _ _ _ h1 h2)
  · rw [e2] at h1; exact .inl h1
  · rw [e1]; exact .inl h2
  · exact .inr ⟨e1.trans e2, by omega⟩
theorem lessE_total (a b : Ent) (h : a ≠ b) : lessE b a = !lessE a b := by
  rw [← cmpE_lt a b]
  have h1 := cmpE_le a b
  have h0 : cmpE a b ≠ 0 := fun e => h ((cmpE_zero a b).1 e)
  cases h2 : lessE b a <;> rw [h2] at h1 <;> simp at h1 ⊢ <;> omega

/-- An entry that stands ahead of all right ones. -/
def e0 : Ent := ⟨em, -1⟩
def sizeB (n : Nat) (p : Pg) : Bool := decide (p.es.length ≤ 4) && !(decide (p.es.length = 0) && decide (1 < n))
def numB (next : Int) (pre : List Pg) (p : Pg) : Bool := decide (1 ≤ p.num) && (decide (p.num < next) && !(pre.any fun q => decide (q.num = p.num)))
def sizesB (n : Nat) : List Pg → Bool
  | [] => true
  | p :: t => sizeB n p && sizesB n t
def numsB (next : Int) (pre : List Pg) : List Pg → Bool
  | [] => true
  | p :: t => numB next pre p && numsB next (pre ++ [p]) t
def chainB (last : Ent) : List Ent → Bool
  | [] => true
  | e :: t => (entB e && lessE last e) && chainB e t
def lastE (last : Ent) : List Ent → Ent
  | [] => last
  | e :: t => lastE e t
def entsB (last : Ent) : List Pg → Bool
  | [] => true
  | p :: t => chainB last p.es && entsB (lastE last p.es) t
def oneB (n : Nat) (next : Int) (pre : List Pg) (last : Ent) : List Pg → Bool
  | [] => true
  | p :: t => (numB next pre p && sizeB n p && chainB last p.es) && oneB n next (pre ++ [p]) (lastE last p.es) t
theorem sizesB_cons (n : Nat) (p : Pg) (t : List Pg) : sizesB n (p :: t) = (sizeB n p && sizesB n t) := rfl
theorem numsB_cons (next : Int) (pre : List Pg) (p : Pg) (t : List Pg) : numsB next pre (p :: t) = (numB next pre p && numsB next (pre ++ [p]) t) := rfl
theorem chainB_cons (last : Ent) (e : Ent) (t : List Ent) : chainB last (e :: t) = ((entB e && lessE last e) && chainB e t) := rfl
theorem entsB_cons (last : Ent) (p : Pg) (t : List Pg) : entsB last (p :: t) = (chainB last p.es && entsB (lastE last p.es) t) := rfl
theorem oneB_cons (n : Nat) (next : Int) (pre : List Pg) (last : Ent) (p : Pg) (t : List Pg) : oneB n next pre last (p :: t) = ((numB next pre p && sizeB n p && chainB last p.es) && oneB n next (pre ++ [p]) (lastE last p.es) t) := rfl
theorem lastE_cons (last e : Ent) (t : List Ent) : lastE last (e :: t) = lastE e t := rfl
theorem oneB_eq (n : Nat) (next : Int) : ∀ (l pre : List Pg) (last : Ent), oneB n next pre last l = (sizesB n l && (numsB next pre l && entsB last l))
  | [], pre, last => rfl
  | p :: t, pre, last => by
    unfold oneB sizesB numsB entsB
    rw [oneB_eq n next t]
    cases numB next pre p <;> cases sizeB n p <;> cases chainB last p.es <;> simp
def headB (ps : List Pg) (next : Int) : Bool := decide (1 ≤ ps.length) && decide (ps.length ≤ 60) && decide (2 ≤ next) && decide (next ≤ 100000)
def treeB (ps : List Pg) (next : Int) : Bool := headB ps next && (sizesB ps.length ps && (numsB next [] ps && entsB e0 ps))

/-- The page where an entry stands, or would, among the first n. -/
def atB (e : Ent) (p : Pg) : Bool := match p.es with
  | [] => false
  | f :: _ => !lessE e f
def atN (ps : List Pg) (e : Ent) (n : Nat) : Bool := match ps[n]? with
  | some p => atB e p
  | none => false
def placeU (ps : List Pg) (e : Ent) : Nat → Nat
  | 0 => 0
  | n + 1 => if (decide (1 ≤ n) && atN ps e n) = true then n else placeU ps e n
def place (ps : List Pg) (e : Ent) : Nat := placeU ps e ps.length
theorem placeU_lt (ps : List Pg) (e : Ent) : ∀ n, 0 < n → placeU ps e n < n
  | 0, h => absurd h (by omega)
  | n + 1, _ => by
    unfold placeU
    split
    · omega
    · by_cases h : n = 0
      · subst h; simp [placeU]
      · have := placeU_lt ps e n (by omega); omega
theorem place_lt (ps : List Pg) (e : Ent) (h : 0 < ps.length) : place ps e < ps.length := placeU_lt ps e _ h
def sizeP (ps : List Pg) : Nat := (ps.map fun p => p.es.length).sum

end Go.Proofs.YtcggkeleaepebaaGreatDoor.Tr

/- Small facts on worlds that the walks over trees lean on. -/
namespace Go.Proofs.YtcggkeleaepebaaGreatDoor.Tr
open Go.RowKit
set_option linter.unusedVariables false

theorem bcell {W w1 : World} (hb : Below W.heap.size W w1) : (∀ b o, b < W.heap.size → w1.cell? ⟨b, o, none⟩ = W.cell? ⟨b, o, none⟩) ∧ (∀ b o, b < W.heap.size → w1.frozen? ⟨b, o, none⟩ = W.frozen? ⟨b, o, none⟩) :=
  ⟨fun b o h => hb.cell (p := ⟨b, o, none⟩) h, fun b o h => hb.frozen (p := ⟨b, o, none⟩) h⟩
theorem owns_below {w w' : World} {base : Nat} {e : TypeId} {size : Nat} {v : Value} {n : Nat} {xs : List Value} (h : w.ownsRow base e size v n xs) (hb : Below w.heap.size w w') : w'.ownsRow base e size v n xs := by
  obtain ⟨h1, h2⟩ := h
  refine ⟨h1, ?_⟩
  rcases h2 with h2 | ⟨g, cap, cur, hv, hg, hh, r⟩
  · exact .inl h2
  · refine .inr ⟨g, cap, cur, hv, hg, ?_, r⟩
    have hlt : g < w.heap.size := by
      rcases Nat.lt_or_ge g w.heap.size with h | h
      · exact h
      · rw [Array.getElem?_eq_none h] at hh; cases hh
    rw [hb.block g hlt]; exact hh
theorem owns_mono {w : World} {base base' : Nat} {e : TypeId} {size : Nat} {v : Value} {n : Nat} {xs : List Value} (h : w.ownsRow base e size v n xs) (hb : base' ≤ base) : w.ownsRow base' e size v n xs := by
  obtain ⟨h1, h2⟩ := h
  refine ⟨h1, ?_⟩
  rcases h2 with h2 | ⟨g, cap, cur, hv, hg, r⟩
  · exact .inl h2
  · exact .inr ⟨g, cap, cur, hv, Nat.le_trans hb hg, r⟩
theorem owns_cell {w : World} {base : Nat} {e : TypeId} {size : Nat} {g n m cap : Nat} {xs : List Value} (h : w.ownsRow base e size (.slice (some ⟨g, 0, none⟩) m cap) n xs) (j : Nat) (u : Value) (hj : xs[j]? = some u) : w.cell? ⟨g, j, none⟩ = some u := by
  have := h.cells (g := g) rfl j u hj
  by_cases h0 : j = 0
  · subst h0; simpa [Addr.add] using this
  · simpa [Addr.add, h0] using this
theorem own_there {w : World} {base g c n : Nat} {e : TypeId} {size : Nat} {xs : List Value} (h : w.ownsRow base e size (.slice (some ⟨g, 0, none⟩) n c) n xs) (j : Nat) (hj : j < n * size) : ∃ u, w.cell? ⟨g, j, none⟩ = some u := by
  have := World.ownsRow.cellAt h j (by omega)
  rw [this]
  exact ⟨_, List.getElem?_eq_getElem (by have := h.1; omega)⟩
theorem grown_set {w : World} {g o : Nat} {v : Value} : w.grownBy (w.setCell ⟨g, o, none⟩ v) (some g) := by
  refine ⟨rfl, rfl, rfl, by simp [World.setCell], ?_⟩
  intro k hk hne
  have : g ≠ k := fun e => hne (by rw [e])
  simp [World.setCell, Array.getElem?_modify, this]

/-- A world in which all that lay in W still lies as it did. -/
structure Under (W : World) where
  x : World
  h : Below W.heap.size W x
theorem wp_region_under {P : Program} {id : Nat} {Q : Exit → Act → World → Prop} {a : Act} {w : World} {l : List Oper} (hm : P.follows .mixedOrders = true) (hB : Region.lexB .any l.toArray = true)
    (h : wpQuiet P l.toArray (fun w' => ∃ u : Under w, w' = u.x) (fun a' => ∀ w', (∃ u : Under w, w' = u.x) → Q .normal a' w') l a) : (Code.region id l.toArray true).wp P Q a w :=
  wp_region_quiet (C := fun w' => ∃ u : Under w, w' = u.x) hm hB ⟨⟨_, (Below.refl _ _).drew⟩, rfl⟩ (by simpa using h)
theorem calls_under {P : Program} {f : FuncId} {args : Array Value} {W : World} {v : Value} (u : Under W)
    (h : Calls P f args u.x fun e w' => e = .returned v ∧ Below u.x.heap.size u.x w') : Calls P f args u.x fun e w'' => e = .returned v ∧ ∃ y : Under W, w'' = y.x :=
  h.mono fun _ w' ⟨he, hb⟩ => ⟨he, ⟨w', u.h.trans (hb.mono u.h.size)⟩, rfl⟩
theorem still_tail_at {P : Program} {id : Nat} {Q : Exit → Act → World → Prop} {a : Act} {w : World} {l : List Oper} (n : Nat) (hm : P.follows .mixedOrders = true) (hB : Region.lexTailB .any l.toArray n = true)
    (h : ∀ V : World, V = w.drew → wpStill P l.toArray V (fun a' => wpList P l.toArray Q (l.drop n) a' V) (l.take n) a) : (Code.region id l.toArray true).wp P Q a w :=
  wp_region_still_tail n hm hB (h _ rfl)

end Go.Proofs.YtcggkeleaepebaaGreatDoor.Tr

/- What all that lies in some blocks alone changes; small facts. -/
namespace Go.Proofs.YtcggkeleaepebaaGreatDoor.Tr
open Go.RowKit
set_option linter.unusedVariables false

theorem ret_bool' {a b : Bool} (h : a = b) : Ending.returned (.bool a) = .returned (.bool b) := by rw [h]
theorem addO (b off i : Nat) : (⟨b, off, none⟩ : Addr).add i = ⟨b, off + i, none⟩ := by unfold Addr.add; split <;> simp_all
/-- From w to w' all that lay in w is as it was, but in blocks from lo on, below hi. -/
structure Chg (lo hi : Nat) (w w' : World) : Prop where
  os : w'.os = w.os
  tape : w'.tape = w.tape
  output : w'.output = w.output
  size : w.heap.size ≤ w'.heap.size
  block : ∀ k, k < w.heap.size → (k < lo ∨ hi ≤ k) → w'.heap[k]? = w.heap[k]?
theorem Chg.refl (lo hi : Nat) (w : World) : Chg lo hi w w := ⟨rfl, rfl, rfl, Nat.le_refl _, fun _ _ _ => rfl⟩
theorem Chg.trans {lo hi : Nat} {a b c : World} (h : Chg lo hi a b) (k : Chg lo hi b c) : Chg lo hi a c :=
  ⟨k.os.trans h.os, k.tape.trans h.tape, k.output.trans h.output, Nat.le_trans h.size k.size, fun i hi ho => (k.block i (Nat.lt_of_lt_of_le hi h.size) ho).trans (h.block i hi ho)⟩
theorem Chg.of_below {lo hi : Nat} {w w' : World} (h : Below w.heap.size w w') : Chg lo hi w w' := ⟨h.os, h.tape, h.output, h.size, fun k hk _ => h.block k hk⟩
theorem Chg.of_grown {lo hi : Nat} {w w' : World} {row : Option Nat} (h : w.grownBy w' row) (hr : ∀ b, row = some b → lo ≤ b ∧ b < hi) : Chg lo hi w w' :=
  ⟨h.os, h.tape, h.output, h.size, fun k hk ho => h.block k hk (fun e => by have := hr k e.symm; omega)⟩
theorem Chg.below {lo hi B : Nat} {w w' : World} (h : Chg lo hi w w') (hB : B ≤ lo) (hs : B ≤ w.heap.size) : Below B w w' :=
  ⟨h.os, h.tape, h.output, h.size, fun k hk => h.block k (by omega) (.inl (by omega))⟩
theorem Chg.owns {lo hi : Nat} {w w' : World} (h : Chg lo hi w w') {base : Nat} {e : TypeId} {size : Nat} {v : Value} {n : Nat} {xs : List Value} (ho : w.ownsRow base e size v n xs) (hout : ∀ g, v.ownBlock = some g → g < lo ∨ hi ≤ g) : w'.ownsRow base e size v n xs := by
  have hlt := ho.lt
  obtain ⟨h1, h2⟩ := ho
  refine ⟨h1, ?_⟩
  rcases h2 with h2 | ⟨g, cap, cur, hv, hg, hh, r⟩
  · exact .inl h2
  · have hb : v.ownBlock = some g := by rw [hv]; rfl
    exact .inr ⟨g, cap, cur, hv, hg, by rw [h.block g (hlt g hb).2 (hout g hb)]; exact hh, r⟩
theorem Chg.cell {lo hi : Nat} {w w' : World} (h : Chg lo hi w w') {b o : Nat} (hb : b < w.heap.size) (ho : b < lo ∨ hi ≤ b) : w'.cell? ⟨b, o, none⟩ = w.cell? ⟨b, o, none⟩ := World.cell?_of_block (h.block b hb ho)

end Go.Proofs.YtcggkeleaepebaaGreatDoor.Tr

/- Rows of entries: what the laws' own helpers on them answer. -/
namespace Go.Proofs.YtcggkeleaepebaaGreatDoor.Tr
open Go.RowKit
set_option linter.unusedVariables false

def ze : Ent := ⟨em, 0⟩
def rowE (t : Ent) : List Value := [.string t.key, .int .i64 t.id]
def flatE (l : List Ent) : List Value := l.flatMap rowE
theorem flatE_snoc (l : List Ent) (f : Ent) : flatE (l ++ [f]) = flatE l ++ rowE f := by unfold flatE; simp
theorem flatE_app (a b : List Ent) : flatE (a ++ b) = flatE a ++ flatE b := by unfold flatE; simp
theorem flatE_cons (v : Ent) (l : List Ent) : flatE (v :: l) = .string v.key :: .int .i64 v.id :: flatE l := rfl
theorem flatE_len (l : List Ent) : (flatE l).length = l.length * 2 := by
  induction l with
  | nil => rfl
  | cons v l ih => rw [flatE_cons]; simp [ih]; omega
theorem flatE_get : ∀ (l : List Ent) (i : Nat) (h : i < l.length), (flatE l)[i * 2]? = some (.string l[i].key) ∧ (flatE l)[i * 2 + 1]? = some (.int .i64 l[i].id)
  | v :: l, 0, _ => ⟨rfl, rfl⟩
  | v :: l, i + 1, h => by
    have ih := flatE_get l i (by simpa using h)
    have e : flatE (v :: l) = rowE v ++ flatE l := by unfold flatE; simp
    rw [e, show (i + 1) * 2 = i * 2 + 2 by omega]
    have hl : (rowE v).length = 2 := rfl
    refine ⟨?_, ?_⟩
    · rw [List.getElem?_append_right (by omega), hl]; simpa using ih.1
    · rw [List.getElem?_append_right (by omega), hl, show i * 2 + 2 + 1 - 2 = i * 2 + 1 by omega]; simpa using ih.2
theorem flatE_set : ∀ (l : List Ent) (k : Nat) (v : Ent), k < l.length → ((flatE l).set (k * 2) (.string v.key)).set (k * 2 + 1) (.int .i64 v.id) = flatE (l.set k v)
  | [], k, v, h => by simp at h
  | u :: l, 0, v, _ => rfl
  | u :: l, k + 1, v, h => by
    rw [List.set_cons_succ, flatE_cons, flatE_cons, ← flatE_set l k v (by simpa using h)]
    rw [show (k + 1) * 2 = k * 2 + 1 + 1 by omega]
    rfl
/-- A row of entries that stands at a block's head. -/
structure ReadE (w : World) (g : Nat) (l : List Ent) : Prop where
  lt : g < w.heap.size
  cells : ∀ i (h : i < l.length), w.cell? ⟨g, i * 2, none⟩ = some (.string l[i].key) ∧ w.cell? ⟨g, i * 2 + 1, none⟩ = some (.int .i64 l[i].id)
theorem ReadE.step {w w' : World} {g base : Nat} {l : List Ent} (h : ReadE w g l) (hb : Below base w w') (hg : g < base) : ReadE w' g l :=
  ⟨Nat.lt_of_lt_of_le h.lt hb.size, fun i hi => ⟨(hb.cell hg).trans (h.cells i hi).1, (hb.cell hg).trans (h.cells i hi).2⟩⟩
theorem ReadE.next {w w' : World} {g : Nat} {l : List Ent} (h : ReadE w g l) (hb : Below w.heap.size w w') : ReadE w' g l := h.step hb h.lt
theorem ReadE.grown {w w' : World} {g : Nat} {l : List Ent} {row : Option Nat} (h : ReadE w g l) (hg : w.grownBy w' row) (hne : some g ≠ row) : ReadE w' g l :=
  ⟨Nat.lt_of_lt_of_le h.lt hg.size, fun i hi => ⟨(World.cell?_of_block (hg.block g h.lt hne)).trans (h.cells i hi).1, (World.cell?_of_block (hg.block g h.lt hne)).trans (h.cells i hi).2⟩⟩
/-- A row of entries, a nil one too. -/
def RowE (w : World) (p : Option Addr) (l : List Ent) : Prop := l = [] ∨ ∃ g, p = some ⟨g, 0, none⟩ ∧ ReadE w g l
theorem RowE.next {w w' : World} {p : Option Addr} {l : List Ent} (h : RowE w p l) (hb : Below w.heap.size w w') : RowE w' p l := by
  rcases h with h | ⟨g, hp, hr⟩
  · exact .inl h
  · exact .inr ⟨g, hp, hr.next hb⟩
/-- Entries that came in. -/
def InE (w : World) (a : Option Addr) (l : List Ent) : Prop := l.length = 0 ∨ ∃ b off, a = some ⟨b, off, none⟩ ∧ b < w.heap.size ∧ ∀ i (h : i < l.length), w.cell? ⟨b, off + i * 2, none⟩ = some (.string l[i].key) ∧ w.cell? ⟨b, off + i * 2 + 1, none⟩ = some (.int .i64 l[i].id)
theorem InE.step {w w' : World} {a : Option Addr} {l : List Ent} (h : InE w a l) (hb : Below w.heap.size w w') : InE w' a l := by
  rcases h with h | ⟨b, off, ha, hlt, hc⟩
  · exact .inl h
  · exact .inr ⟨b, off, ha, Nat.lt_of_lt_of_le hlt hb.size, fun i hi => ⟨(hb.cell hlt).trans (hc i hi).1, (hb.cell hlt).trans (hc i hi).2⟩⟩
theorem ReadE.inE {w : World} {g : Nat} {l : List Ent} (h : ReadE w g l) : InE w (some ⟨g, 0, none⟩) l :=
  .inr ⟨g, 0, rfl, h.lt, fun i hi => by rw [Nat.zero_add]; exact h.cells i hi⟩
theorem InE.grown {w w' : World} {a : Option Addr} {l : List Ent} {row : Option Nat} (h : InE w a l) (hg : w.grownBy w' row) (hne : ∀ b off, a = some ⟨b, off, none⟩ → some b ≠ row) : InE w' a l := by
  rcases h with h | ⟨b, off, ha, hlt, hc⟩
  · exact .inl h
  · have hb := hg.block b hlt (hne b off ha)
    exact .inr ⟨b, off, ha, Nat.lt_of_lt_of_le hlt hg.size, fun i hi => ⟨(World.cell?_of_block hb).trans (hc i hi).1, (World.cell?_of_block hb).trans (hc i hi).2⟩⟩
/-- The first k entries, and zero ones behind them. -/
def mixE (l : List Ent) (k : Nat) : List Ent := l.take k ++ List.replicate (l.length - k) ze
theorem mixE_len (l : List Ent) (k : Nat) (h : k ≤ l.length) : (mixE l k).length = l.length := by unfold mixE; simp; omega
theorem mixE_full (l : List Ent) (k : Nat) (h : l.length ≤ k) : mixE l k = l := by
  unfold mixE; rw [List.take_of_length_le h, Nat.sub_eq_zero_of_le h]; simp
theorem mixE_set (l : List Ent) (k : Nat) (h : k < l.length) : (mixE l k).set k l[k] = mixE l (k + 1) := by
  unfold mixE
  have hl : (l.take k).length = k := by simp; omega
  rw [List.take_succ_eq_append_getElem h, List.append_assoc, List.set_append_right _ _ (by omega)]
  congr 1
  rw [hl, Nat.sub_self]
  obtain ⟨m, hm⟩ : ∃ m, l.length - k = m + 1 := ⟨l.length - k - 1, by omega⟩
  rw [hm, List.replicate_succ, show l.length - (k + 1) = m by omega]
  rfl
theorem made_zeroE (n : Nat) : (madeCells (Value.agg #[.string em, .int .i64 0]).cells (n * 2)).toList = flatE (List.replicate n ze) := by
  apply List.ext_getElem?
  intro j
  by_cases hj : j < n * 2
  · have hg := flatE_get (List.replicate n ze) (j / 2) (by simp; omega)
    simp only [List.getElem_replicate] at hg
    have hc : (Value.agg #[.string em, .int .i64 0]).cells = #[.string em, .int .i64 0] := by rfl
    rw [hc]
    have h3 : j % 2 = 0 ∨ j % 2 = 1 := by omega
    rcases h3 with h3 | h3
    · have e : j = j / 2 * 2 := by omega
      rw [show (flatE (List.replicate n ze))[j]? = (flatE (List.replicate n ze))[j / 2 * 2]? by rw [← e], hg.1]
      simp [madeCells, hj, h3, ze]
    · have e : j = j / 2 * 2 + 1 := by omega
      rw [show (flatE (List.replicate n ze))[j]? = (flatE (List.replicate n ze))[j / 2 * 2 + 1]? by rw [← e], hg.2]
      simp [madeCells, hj, h3, ze]
  · rw [List.getElem?_eq_none (by simp [madeCells]; omega), List.getElem?_eq_none (by rw [flatE_len]; simp; omega)]

def szE (t : Ent) : Prop := t.key.size ≤ 1048576
def maxE (t : Ent) : Prop := t.key.size ≤ maxLen
theorem take_allE (p : Ent → Prop) (l : List Ent) (k : Nat) (h : k < l.length) (h1 : ∀ v ∈ l.take k, p v) (h2 : p l[k]) : ∀ v ∈ l.take (k + 1), p v := by
  intro v hv
  rw [List.take_succ_eq_append_getElem h] at hv
  rcases List.mem_append.mp hv with hv | hv
  · exact h1 v hv
  · rw [List.mem_singleton.mp hv]; exact h2

end Go.Proofs.YtcggkeleaepebaaGreatDoor.Tr

/- Rows of pages, and trees: what the laws' own helpers on them answer. -/
namespace Go.Proofs.YtcggkeleaepebaaGreatDoor.Tr
open Go.RowKit
set_option linter.unusedVariables false

/-- A row of pages that stands at a block's head. -/
structure ReadP (w : World) (g : Nat) (f : List Pg) : Prop where
  lt : g < w.heap.size
  cells : ∀ i (h : i < f.length), w.cell? ⟨g, i * 2, none⟩ = some (.int .i64 f[i].num) ∧ ∃ p cap, w.cell? ⟨g, i * 2 + 1, none⟩ = some (.slice p f[i].es.length cap) ∧ InE w p f[i].es
theorem ReadP.next {w w' : World} {g : Nat} {f : List Pg} (h : ReadP w g f) (hb : Below w.heap.size w w') : ReadP w' g f :=
  ⟨Nat.lt_of_lt_of_le h.lt hb.size, fun i hi => by
    obtain ⟨h0, p, cap, hc, hr⟩ := h.cells i hi
    exact ⟨(hb.cell h.lt).trans h0, p, cap, (hb.cell h.lt).trans hc, hr.step hb⟩⟩
/-- A row of pages, a nil one too. -/
def RowP (w : World) (p : Option Addr) (f : List Pg) : Prop := f = [] ∨ ∃ g, p = some ⟨g, 0, none⟩ ∧ ReadP w g f
theorem RowP.next {w w' : World} {p : Option Addr} {f : List Pg} (h : RowP w p f) (hb : Below w.heap.size w w') : RowP w' p f := by
  rcases h with h | ⟨g, hp, hr⟩
  · exact .inl h
  · exact .inr ⟨g, hp, hr.next hb⟩
/-- Pages that came in. -/
def InP (w : World) (a : Option Addr) (f : List Pg) : Prop := f.length = 0 ∨ ∃ b off, a = some ⟨b, off, none⟩ ∧ b < w.heap.size ∧ ∀ i (h : i < f.length), w.cell? ⟨b, off + i * 2, none⟩ = some (.int .i64 f[i].num) ∧ ∃ p cap, w.cell? ⟨b, off + i * 2 + 1, none⟩ = some (.slice p f[i].es.length cap) ∧ InE w p f[i].es
theorem InP.step {w w' : World} {a : Option Addr} {f : List Pg} (h : InP w a f) (hb : Below w.heap.size w w') : InP w' a f := by
  rcases h with h | ⟨b, off, ha, hlt, hc⟩
  · exact .inl h
  · exact .inr ⟨b, off, ha, Nat.lt_of_lt_of_le hlt hb.size, fun i hi => by
      obtain ⟨h0, p, cap, h1, h2⟩ := hc i hi
      exact ⟨(hb.cell hlt).trans h0, p, cap, (hb.cell hlt).trans h1, h2.step hb⟩⟩
def szP (p : Pg) : Prop := p.es.length ≤ 1048576 ∧ ∀ v ∈ p.es, szE v
def maxP (p : Pg) : Prop := p.es.length ≤ maxLen ∧ ∀ v ∈ p.es, maxE v
theorem take_allP (p : Pg → Prop) (l : List Pg) (k : Nat) (h : k < l.length) (h1 : ∀ v ∈ l.take k, p v) (h2 : p l[k]) : ∀ v ∈ l.take (k + 1), p v := by
  intro v hv
  rw [List.take_succ_eq_append_getElem h] at hv
  rcases List.mem_append.mp hv with hv | hv
  · exact h1 v hv
  · rw [List.mem_singleton.mp hv]; exact h2

end Go.Proofs.YtcggkeleaepebaaGreatDoor.Tr

/- Trees made out of the laws' own, and trees held against each other: what the laws' helpers answer. -/
namespace Go.Proofs.YtcggkeleaepebaaGreatDoor.Tr
open Go.RowKit
set_option linter.unusedVariables false

end Go.Proofs.YtcggkeleaepebaaGreatDoor.Tr

/- Marks on rows of entries: what the laws' helpers answer, and which memory they change. -/
namespace Go.Proofs.YtcggkeleaepebaaGreatDoor.Tr
open Go.RowKit
set_option linter.unusedVariables false

theorem grown_below {w w' : World} {row : Option Nat} (h : Below w.heap.size w w') : w.grownBy w' row := ⟨h.os, h.tape, h.output, h.size, fun k hk _ => h.block k hk⟩
theorem grown_trans {a b c : World} {row : Option Nat} (h : a.grownBy b row) (k : b.grownBy c row) : a.grownBy c row :=
  ⟨k.os.trans h.os, k.tape.trans h.tape, k.output.trans h.output, Nat.le_trans h.size k.size, fun i hi hne => (k.block i (Nat.lt_of_lt_of_le hi h.size) hne).trans (h.block i hi hne)⟩
theorem grown_refl (a : World) (row : Option Nat) : a.grownBy a row := ⟨rfl, rfl, rfl, Nat.le_refl _, fun _ _ _ => rfl⟩

def txt (zs : List Int) : ByteArray := strOfNums zs
theorem txt_size (z : Int) : (txt [z]).size = 1 := by rfl
/-- The digits of a number ahead of a text. -/
def digs (k : Nat) (out : ByteArray) : ByteArray := if h : k = 0 then out else digs (k / 10) (txt [48 + (k : Int) % 10] ++ out)
  termination_by k
  decreasing_by omega
theorem digs_zero (out : ByteArray) : digs 0 out = out := by rw [digs]; simp
theorem digs_pos (k : Nat) (out : ByteArray) (h : 0 < k) : digs k out = digs (k / 10) (txt [48 + (k : Int) % 10] ++ out) := by
  rw [digs, dif_neg (by omega)]
/-- The text of a mark. -/
def mt (k : Nat) : ByteArray := (⟨#[109]⟩ : ByteArray) ++ digs k em
theorem conv1 (W : World) (z : Int) : (convert 127 9 (.slice (some ⟨W.heap.size, 0, none⟩) 1 1)).run Tryz.prog (W.alloc (.cells #[.int .u8 z] 5)) = .ok (.string (txt [z])) (W.alloc (.cells #[.int .u8 z] 5)) :=
  run_convert_bytes_arg _ 127 5 Tryz.underlying127 Tryz.underlying5 W.heap.size 0 1 1 [z] rfl (fun i hi => by
    have : i = 0 := by omega
    subst this
    simp [go_sem]) 9 Tryz.underlying9
set_option maxRecDepth 4000 in
set_option maxHeartbeats 1000000 in
theorem markText_any (k : Nat) (h1 : 1 ≤ k) (h2 : k ≤ 17592186044416) (w : World) :
    Calls Tryz.prog 63 #[.int .i64 k] w fun e w' => e = .returned (.string (mt k)) ∧ Below w.heap.size w w' := by
  have hp : ¬ ((k : Int) ≤ 0) := by omega
  go_enter Tryz.func63, Tryz.ntmps63
  go_wp2_with fail
  go_loopw [0, 3] (fun i u wr => ∃ (j : Nat) (out : ByteArray), i = .int .i64 j ∧ u = .string out ∧ digs j out = digs k em ∧ out.size + j ≤ k ∧ Below w.heap.size w wr) (fun i _ _ => (intOf i).toNat)
  case atStart => exact ⟨k, em, rfl, rfl, rfl, by simp [ByteArray.size], Below.refl _ _⟩
  case round =>
    obtain ⟨j, out, rfl, rfl, hd, hsz, hbel⟩ := hrel
    have HD : Hid _ := hd
    clear hd
    have hz := hbel.size
    by_cases hj : 0 < j
    · have hj' : (0 : Int) < (j : Int) := by omega
      have ht : (txt [48 + (j : Int) % 10]).size = 1 := txt_size _
      have hc := conv1 wr (48 + (j : Int) % 10)
      have hm : Int.tmod (j : Int) 10 = (j : Int) % 10 := Int.tmod_eq_emod_of_nonneg (by omega)
      have hq : Int.tdiv (j : Int) 10 = (j : Int) / 10 := Int.tdiv_eq_ediv_of_nonneg (by omega)
      go_wp2_with fail
      go_roundw
      case rel => exact ⟨j / 10, txt [48 + (j : Int) % 10] ++ out, by go_num, rfl, by rw [← digs_pos j out hj]; exact HD.out, by rw [ByteArray.size_append, ht]; omega, by (repeat (first | (with_reducible exact Below.refl _ _) | (with_reducible assumption) | (with_reducible apply below_drewN) | (with_reducible apply Below.drew) | ((with_reducible refine Below.setCell ?_ ?_ _); rotate_left; focus (first | (simp; done) | (simp; omega) | omega)) | ((with_reducible refine Below.alloc ?_ ?_ _); rotate_left; focus (first | (simp; done) | (simp; omega) | omega))))⟩
      case measure => simp [intOf]; omega
    · have hj0 : j = 0 := by omega
      subst hj0
      have e : out = digs k em := by rw [← HD.out, digs_zero]
      subst e
      clear HD
      go_wp2_with fail
      go_ret
      exact ⟨rfl, hbel⟩

/-- The entry that marks place number i, from number q on. -/
def markE (q i : Nat) : Ent := ⟨mt (q + 2 * i), (q : Int) + 2 * (i : Int) + 1⟩
def marksE (q n : Nat) : List Ent := (List.range n).map (markE q)
theorem marksE_len (q n : Nat) : (marksE q n).length = n := by unfold marksE; simp
theorem marksE_get (q n i : Nat) (h : i < (marksE q n).length) : (marksE q n)[i] = markE q i := by simp [marksE]
/-- The first k places marked. -/
def markMixE (q : Nat) (l : List Ent) (k : Nat) : List Ent := marksE q k ++ l.drop k
theorem markMixE_len (q : Nat) (l : List Ent) (k : Nat) (h : k ≤ l.length) : (markMixE q l k).length = l.length := by unfold markMixE; rw [List.length_append, marksE_len, List.length_drop]; omega
theorem markMixE_zero (q : Nat) (l : List Ent) : markMixE q l 0 = l := by unfold markMixE marksE; simp
theorem markMixE_full (q : Nat) (l : List Ent) : markMixE q l l.length = marksE q l.length := by unfold markMixE; simp
theorem markMixE_set (q : Nat) (l : List Ent) (k : Nat) (h : k < l.length) : (markMixE q l k).set k (markE q k) = markMixE q l (k + 1) := by
  unfold markMixE
  rw [List.set_append_right _ _ (by rw [marksE_len]; omega), marksE_len, Nat.sub_self]
  have e : marksE q (k + 1) = marksE q k ++ [markE q k] := by unfold marksE; rw [List.range_succ, List.map_append]; rfl
  rw [e, List.append_assoc]
  congr 1
  rw [List.drop_eq_getElem_cons h]; rfl

end Go.Proofs.YtcggkeleaepebaaGreatDoor.Tr
