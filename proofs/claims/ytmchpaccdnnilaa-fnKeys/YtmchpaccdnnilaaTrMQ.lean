/- Entries, pages and trees said plainly: what makes a tree right, and where an entry's page is. Nothing of the program is used here. -/
import Derived.WalkKit
import Derived.Lib.Small
import Derived.Lib.Bytealg
import Derived.Test.YtmchpaccdnnilaaProg
import Derived.WalkSpells
import Derived.WalkLawsBesides
import Derived.Deep.QuietTactic
import Derived.BigQuiet
import Derived.Laws.BytesArg
import Derived.Laws.OwnMore
import Derived.Maps.AppendAt
import Derived.Lib.Walk
import Derived.StillTailTactics
import Derived.Deep.Cut
import Derived.Test.YtmchpaccdnnilaaKeyO
namespace Go.Proofs.Ytmchpaccdnnilaa.Tr
open Go.RowKit
set_option linter.unusedVariables false

def cB (a b : ByteArray) : Int := Lib.compareBytes a.data.toList b.data.toList
abbrev em : ByteArray := ⟨#[]⟩
abbrev cI (x y : Int) : Int := Lib.compareInt x y
theorem cI_zero (x y : Int) : cI x y = 0 ↔ x = y := by unfold cI Lib.compareInt; constructor <;> intro h <;> (repeat' split at *) <;> omega
theorem cI_range (x y : Int) : -1 ≤ cI x y ∧ cI x y ≤ 1 := by unfold cI Lib.compareInt; (repeat' split) <;> omega
theorem cI_ne (x y : Int) (h : x ≠ y) : cI x y = if y < x then 1 else -1 := by unfold cI Lib.compareInt; (repeat' split) <;> omega
theorem bytes_zero : ∀ a b : List UInt8, Lib.compareBytes a b = 0 ↔ a = b
  | [], [] => by simp [Lib.compareBytes]
  | [], _ :: _ => by simp [Lib.compareBytes]
  | _ :: _, [] => by simp [Lib.compareBytes]
  | a :: l, b :: m => by
    have ih := bytes_zero l m
    unfold Lib.compareBytes
    by_cases h1 : a < b
    · rw [if_pos h1]
      constructor
      · intro h; cases h
      · intro h; injection h with h _; subst h; simp at h1
    · rw [if_neg h1]
      by_cases h2 : b < a
      · rw [if_pos h2]
        constructor
        · intro h; cases h
        · intro h; injection h with h _; subst h; simp at h2
      · rw [if_neg h2, ih]
        have : a = b := by apply UInt8.toNat_inj.mp; simp [UInt8.lt_iff_toNat_lt] at *; omega
        subst this
        simp
theorem bytes_range : ∀ a b : List UInt8, -1 ≤ Lib.compareBytes a b ∧ Lib.compareBytes a b ≤ 1
  | [], [] => by simp [Lib.compareBytes]
  | [], _ :: _ => by simp [Lib.compareBytes]
  | _ :: _, [] => by simp [Lib.compareBytes]
  | a :: l, b :: m => by
    have ih := bytes_range l m
    unfold Lib.compareBytes
    (repeat' split) <;> first | omega | exact ih
theorem bytes_less : ∀ a b : List UInt8, a ≠ b → Lib.compareBytes a b = if Op.bytesLess b a = true then 1 else -1
  | [], [], h => absurd rfl h
  | [], _ :: _, _ => by simp [Lib.compareBytes, Op.bytesLess]
  | _ :: _, [], _ => by simp [Lib.compareBytes, Op.bytesLess]
  | a :: l, b :: m, h => by
    unfold Lib.compareBytes
    by_cases h1 : a < b
    · have h2 : ¬ b < a := by simp [UInt8.lt_iff_toNat_lt] at *; omega
      have h3 : ¬ b = a := by intro e; subst e; simp at h1
      rw [if_pos h1]; simp [Op.bytesLess, h2, h3]
    · rw [if_neg h1]
      by_cases h2 : b < a
      · rw [if_pos h2]; simp [Op.bytesLess, h2]
      · have e : a = b := by apply UInt8.toNat_inj.mp; simp [UInt8.lt_iff_toNat_lt] at *; omega
        subst e
        rw [if_neg h2, bytes_less l m (fun e => h (by rw [e]))]
        simp [Op.bytesLess]
theorem ba_ext {a b : ByteArray} (h : a.data.toList = b.data.toList) : a = b := by apply ByteArray.ext; apply Array.ext'; exact h
theorem cB_zero (a b : ByteArray) : cB a b = 0 ↔ a = b := by
  unfold cB; rw [bytes_zero]
  exact ⟨ba_ext, fun h => by rw [h]⟩
theorem cB_range (a b : ByteArray) : -1 ≤ cB a b ∧ cB a b ≤ 1 := bytes_range _ _
theorem cB_ne (a b : ByteArray) (h : a ≠ b) : cB a b = if Op.bytesLess b.toList a.toList = true then 1 else -1 := by
  unfold cB
  rw [ByteArray.toList_eq, ByteArray.toList_eq]
  exact bytes_less _ _ (fun e => h (ba_ext e))
theorem less_total : ∀ x y : List UInt8, (Op.bytesLess y x || y == x) = !(Op.bytesLess x y)
  | x, [] => by cases x <;> simp [Op.bytesLess]
  | [], b :: y => by simp [Op.bytesLess]
  | a :: x, b :: y => by
    have ih := less_total x y
    simp only [Op.bytesLess]
    by_cases h1 : a < b
    · have h2 : ¬ b < a := by simp [UInt8.lt_iff_toNat_lt] at *; omega
      have h3 : ¬ b = a := by intro e; subst e; simp at h1
      simp [h1, h2, h3]
    · by_cases h4 : b < a
      · have h3 : ¬ a = b := by intro e; subst e; simp at h4
        have h3' : ¬ b = a := fun e => h3 e.symm
        simp [h1, h4, h3]
      · have h3 : a = b := by
          apply UInt8.toNat_inj.mp
          simp [UInt8.lt_iff_toNat_lt] at *; omega
        subst h3
        simpa [h1] using ih
theorem less_trans : ∀ x y z : List UInt8, Op.bytesLess x y = true → Op.bytesLess y z = true → Op.bytesLess x z = true
  | x, [], z, h, _ => by cases x <;> simp [Op.bytesLess] at h
  | x, b :: y, [], _, h => by simp [Op.bytesLess] at h
  | [], b :: y, c :: z, _, _ => by simp [Op.bytesLess]
  | a :: x, b :: y, c :: z, h1, h2 => by
    have ih := less_trans x y z
    simp only [Op.bytesLess] at h1 h2 ⊢
    by_cases hab : a < b
    · by_cases hbc : b < c
      · have : a < c := by simp [UInt8.lt_iff_toNat_lt] at *; omega
        simp [this]
      · have hbc2 : b = c := by
          by_cases hcb : b = c
          · exact hcb
          · simp [hbc, hcb] at h2
        subst hbc2; simp [hab]
    · have hab2 : a = b := by
        by_cases e : a = b
        · exact e
        · simp [hab, e] at h1
      subst hab2
      by_cases hbc : a < c
      · simp [hbc]
      · have hbc2 : a = c := by
          by_cases e : a = c
          · exact e
          · simp [hbc, e] at h2
        subst hbc2
        simp at h1 h2 ⊢
        exact ih h1 h2
theorem less_irrefl : ∀ x : List UInt8, Op.bytesLess x x = false
  | [] => rfl
  | a :: x => by simp [Op.bytesLess, less_irrefl x]
theorem eqL (a b : ByteArray) : (a.toList == b.toList) = true ↔ a = b := by
  rw [beq_iff_eq]
  exact ⟨fun e => ba_ext (by rw [← ByteArray.toList_eq, ← ByteArray.toList_eq]; exact e), fun e => by rw [e]⟩
theorem eqL_false (a b : ByteArray) (h : a ≠ b) : (a.toList == b.toList) = false := by
  rw [Bool.eq_false_iff]; exact fun e => h ((eqL a b).1 e)

/-- An entry, its key as bytes. -/
structure Ent where
  key : ByteArray
  id : Int
/-- A page: its number and its entries. -/
structure Pg where
  num : Int
  es : List Ent
theorem ent_ext {a b : Ent} (h1 : a.key = b.key) (h2 : a.id = b.id) : a = b := by cases a; cases b; simp_all
def lessE (a b : Ent) : Bool := Op.bytesLess a.key.toList b.key.toList || (a.key.toList == b.key.toList && decide (a.id < b.id))
def entB (e : Ent) : Bool := decide (e.key.size ≤ 2000) && (decide (0 ≤ e.id) && decide (e.id ≤ 9999))
def cmpE (a b : Ent) : Int := if cB a.key b.key = 0 then cI a.id b.id else cB a.key b.key
theorem cmpE_key (a b : Ent) (h : a.key ≠ b.key) : cmpE a b = cB a.key b.key := by unfold cmpE; rw [if_neg (fun e => h ((cB_zero _ _).1 e))]
theorem cmpE_id (a b : Ent) (h : a.key = b.key) : cmpE a b = cI a.id b.id := by unfold cmpE; rw [if_pos ((cB_zero _ _).2 h)]
theorem cmpE_le (a b : Ent) : decide (cmpE a b ≤ 0) = !lessE b a := by
  unfold lessE
  by_cases h : a.key = b.key
  · rw [cmpE_id a b h, h, less_irrefl, (eqL _ _).2 rfl]
    unfold cI Lib.compareInt
    by_cases h1 : a.id < b.id
    · rw [if_pos h1]; simp; omega
    · by_cases h2 : b.id < a.id
      · rw [if_neg h1, if_pos h2]; simp [h2]
      · rw [if_neg h1, if_neg h2]; simp; omega
  · rw [cmpE_key a b h, cB_ne a.key b.key h, eqL_false _ _ (fun e => h e.symm)]
    cases Op.bytesLess b.key.toList a.key.toList <;> simp
theorem cmpE_lt (a b : Ent) : decide (cmpE a b < 0) = lessE a b := by
  unfold lessE
  by_cases h : a.key = b.key
  · rw [cmpE_id a b h, h, less_irrefl, (eqL _ _).2 rfl]
    unfold cI Lib.compareInt
    by_cases h1 : a.id < b.id
    · rw [if_pos h1]; simp [h1]
    · by_cases h2 : b.id < a.id
      · rw [if_neg h1, if_pos h2]; simp; omega
      · rw [if_neg h1, if_neg h2]; simp; omega
  · rw [cmpE_key a b h, cB_ne a.key b.key h, eqL_false _ _ h]
    have := less_total a.key.toList b.key.toList
    rw [eqL_false _ _ (fun e => h e.symm)] at this
    cases h2 : Op.bytesLess b.key.toList a.key.toList <;> rw [h2] at this <;> cases h3 : Op.bytesLess a.key.toList b.key.toList <;> simp_all
theorem cmpE_zero (a b : Ent) : cmpE a b = 0 ↔ a = b := by
  by_cases h : a.key = b.key
  · rw [cmpE_id a b h, cI_zero]
    exact ⟨fun e => ent_ext h e, fun e => by rw [e]⟩
  · rw [cmpE_key a b h, cB_zero]
    exact ⟨fun e => absurd e h, fun e => by rw [e]⟩
theorem lessE_irrefl (a : Ent) : lessE a a = false := by unfold lessE; simp [less_irrefl]
theorem lessE_trans {a b c : Ent} (h1 : lessE a b = true) (h2 : lessE b c = true) : lessE a c = true := by
  unfold lessE at *
  simp only [Bool.or_eq_true, Bool.and_eq_true, decide_eq_true_eq, eqL] at *
  rcases h1 with h1 | ⟨e1, h1⟩ <;> rcases h2 with h2 | ⟨e2, h2⟩
  · exact .inl (less_trans _ _ _ h1 h2)
  · rw [e2] at h1; exact .inl h1
  · rw [e1]; exact .inl h2
  · exact .inr ⟨e1.trans e2, by omega⟩
theorem lessE_total (a b : Ent) (h : a ≠ b) : lessE b a = !lessE a b := by
  rw [← cmpE_lt a b]
  have h1 := cmpE_le a b
  have h0 : cmpE a b ≠ 0 := fun e => h ((cmpE_zero a b).1 e)
  cases h2 : lessE b a <;> rw [h2] at h1 <;> simp at h1 ⊢ <;> omega

/-- An entry that stands ahead of all right ones. -/
def e0 : Ent := ⟨em, -1⟩
def sizeB (n : Nat) (p : Pg) : Bool := decide (p.es.length ≤ 4) && !(decide (p.es.length = 0) && decide (1 < n))
def numB (next : Int) (pre : List Pg) (p : Pg) : Bool := decide (1 ≤ p.num) && (decide (p.num < next) && !(pre.any fun q => decide (q.num = p.num)))
def sizesB (n : Nat) : List Pg → Bool
  | [] => true
  | p :: t => sizeB n p && sizesB n t
def numsB (next : Int) (pre : List Pg) : List Pg → Bool
  | [] => true
  | p :: t => numB next pre p && numsB next (pre ++ [p]) t
def chainB (last : Ent) : List Ent → Bool
  | [] => true
  | e :: t => (entB e && lessE last e) && chainB e t
def lastE (last : Ent) : List Ent → Ent
  | [] => last
  | e :: t => lastE e t
def entsB (last : Ent) : List Pg → Bool
  | [] => true
  | p :: t => chainB last p.es && entsB (lastE last p.es) t
def oneB (n : Nat) (next : Int) (pre : List Pg) (last : Ent) : List Pg → Bool
  | [] => true
  | p :: t => (numB next pre p && sizeB n p && chainB last p.es) && oneB n next (pre ++ [p]) (lastE last p.es) t
theorem sizesB_cons (n : Nat) (p : Pg) (t : List Pg) : sizesB n (p :: t) = (sizeB n p && sizesB n t) := rfl
theorem numsB_cons (next : Int) (pre : List Pg) (p : Pg) (t : List Pg) : numsB next pre (p :: t) = (numB next pre p && numsB next (pre ++ [p]) t) := rfl
theorem chainB_cons (last : Ent) (e : Ent) (t : List Ent) : chainB last (e :: t) = ((entB e && lessE last e) && chainB e t) := rfl
theorem entsB_cons (last : Ent) (p : Pg) (t : List Pg) : entsB last (p :: t) = (chainB last p.es && entsB (lastE last p.es) t) := rfl
theorem oneB_cons (n : Nat) (next : Int) (pre : List Pg) (last : Ent) (p : Pg) (t : List Pg) : oneB n next pre last (p :: t) = ((numB next pre p && sizeB n p && chainB last p.es) && oneB n next (pre ++ [p]) (lastE last p.es) t) := rfl
theorem lastE_cons (last e : Ent) (t : List Ent) : lastE last (e :: t) = lastE e t := rfl
theorem oneB_eq (n : Nat) (next : Int) : ∀ (l pre : List Pg) (last : Ent), oneB n next pre last l = (sizesB n l && (numsB next pre l && entsB last l))
  | [], pre, last => rfl
  | p :: t, pre, last => by
    unfold oneB sizesB numsB entsB
    rw [oneB_eq n next t]
    cases numB next pre p <;> cases sizeB n p <;> cases chainB last p.es <;> simp
def headB (ps : List Pg) (next : Int) : Bool := decide (1 ≤ ps.length) && decide (ps.length ≤ 60) && decide (2 ≤ next) && decide (next ≤ 100000)
def treeB (ps : List Pg) (next : Int) : Bool := headB ps next && (sizesB ps.length ps && (numsB next [] ps && entsB e0 ps))

/-- The page where an entry stands, or would, among the first n. -/
def atB (e : Ent) (p : Pg) : Bool := match p.es with
  | [] => false
  | f :: _ => !lessE e f
def atN (ps : List Pg) (e : Ent) (n : Nat) : Bool := match ps[n]? with
  | some p => atB e p
  | none => false
def placeU (ps : List Pg) (e : Ent) : Nat → Nat
  | 0 => 0
  | n + 1 => if (decide (1 ≤ n) && atN ps e n) = true then n else placeU ps e n
def place (ps : List Pg) (e : Ent) : Nat := placeU ps e ps.length
theorem placeU_lt (ps : List Pg) (e : Ent) : ∀ n, 0 < n → placeU ps e n < n
  | 0, h => absurd h (by omega)
  | n + 1, _ => by
    unfold placeU
    split
    · omega
    · by_cases h : n = 0
      · subst h; simp [placeU]
      · have := placeU_lt ps e n (by omega); omega
theorem place_lt (ps : List Pg) (e : Ent) (h : 0 < ps.length) : place ps e < ps.length := placeU_lt ps e _ h
def sizeP (ps : List Pg) : Nat := (ps.map fun p => p.es.length).sum

end Go.Proofs.Ytmchpaccdnnilaa.Tr

/- Small facts on worlds that the walks over trees lean on. -/
namespace Go.Proofs.Ytmchpaccdnnilaa.Tr
open Go.RowKit
set_option linter.unusedVariables false

theorem bcell {W w1 : World} (hb : Below W.heap.size W w1) : (∀ b o, b < W.heap.size → w1.cell? ⟨b, o, none⟩ = W.cell? ⟨b, o, none⟩) ∧ (∀ b o, b < W.heap.size → w1.frozen? ⟨b, o, none⟩ = W.frozen? ⟨b, o, none⟩) :=
  ⟨fun b o h => hb.cell (p := ⟨b, o, none⟩) h, fun b o h => hb.frozen (p := ⟨b, o, none⟩) h⟩
theorem owns_below {w w' : World} {base : Nat} {e : TypeId} {size : Nat} {v : Value} {n : Nat} {xs : List Value} (h : w.ownsRow base e size v n xs) (hb : Below w.heap.size w w') : w'.ownsRow base e size v n xs := by
  obtain ⟨h1, h2⟩ := h
  refine ⟨h1, ?_⟩
  rcases h2 with h2 | ⟨g, cap, cur, hv, hg, hh, r⟩
  · exact .inl h2
  · refine .inr ⟨g, cap, cur, hv, hg, ?_, r⟩
    have hlt : g < w.heap.size := by
      rcases Nat.lt_or_ge g w.heap.size with h | h
      · exact h
      · rw [Array.getElem?_eq_none h] at hh; cases hh
    rw [hb.block g hlt]; exact hh
theorem owns_mono {w : World} {base base' : Nat} {e : TypeId} {size : Nat} {v : Value} {n : Nat} {xs : List Value} (h : w.ownsRow base e size v n xs) (hb : base' ≤ base) : w.ownsRow base' e size v n xs := by
  obtain ⟨h1, h2⟩ := h
  refine ⟨h1, ?_⟩
  rcases h2 with h2 | ⟨g, cap, cur, hv, hg, r⟩
  · exact .inl h2
  · exact .inr ⟨g, cap, cur, hv, Nat.le_trans hb hg, r⟩
theorem owns_cell {w : World} {base : Nat} {e : TypeId} {size : Nat} {g n m cap : Nat} {xs : List Value} (h : w.ownsRow base e size (.slice (some ⟨g, 0, none⟩) m cap) n xs) (j : Nat) (u : Value) (hj : xs[j]? = some u) : w.cell? ⟨g, j, none⟩ = some u := by
  have := h.cells (g := g) rfl j u hj
  by_cases h0 : j = 0
  · subst h0; simpa [Addr.add] using this
  · simpa [Addr.add, h0] using this
theorem own_there {w : World} {base g c n : Nat} {e : TypeId} {size : Nat} {xs : List Value} (h : w.ownsRow base e size (.slice (some ⟨g, 0, none⟩) n c) n xs) (j : Nat) (hj : j < n * size) : ∃ u, w.cell? ⟨g, j, none⟩ = some u := by
  have := World.ownsRow.cellAt h j (by omega)
  rw [this]
  exact ⟨_, List.getElem?_eq_getElem (by have := h.1; omega)⟩
theorem grown_set {w : World} {g o : Nat} {v : Value} : w.grownBy (w.setCell ⟨g, o, none⟩ v) (some g) := by
  refine ⟨rfl, rfl, rfl, by simp [World.setCell], ?_⟩
  intro k hk hne
  have : g ≠ k := fun e => hne (by rw [e])
  simp [World.setCell, Array.getElem?_modify, this]

/-- A world in which all that lay in W still lies as it did. -/
structure Under (W : World) where
  x : World
  h : Below W.heap.size W x
theorem wp_region_under {P : Program} {id : Nat} {Q : Exit → Act → World → Prop} {a : Act} {w : World} {l : List Oper} (hm : P.follows .mixedOrders = true) (hB : Region.lexB .any l.toArray = true)
    (h : wpQuiet P l.toArray (fun w' => ∃ u : Under w, w' = u.x) (fun a' => ∀ w', (∃ u : Under w, w' = u.x) → Q .normal a' w') l a) : (Code.region id l.toArray true).wp P Q a w :=
  wp_region_quiet (C := fun w' => ∃ u : Under w, w' = u.x) hm hB ⟨⟨_, (Below.refl _ _).drew⟩, rfl⟩ (by simpa using h)
theorem calls_under {P : Program} {f : FuncId} {args : Array Value} {W : World} {v : Value} (u : Under W)
    (h : Calls P f args u.x fun e w' => e = .returned v ∧ Below u.x.heap.size u.x w') : Calls P f args u.x fun e w'' => e = .returned v ∧ ∃ y : Under W, w'' = y.x :=
  h.mono fun _ w' ⟨he, hb⟩ => ⟨he, ⟨w', u.h.trans (hb.mono u.h.size)⟩, rfl⟩
theorem still_tail_at {P : Program} {id : Nat} {Q : Exit → Act → World → Prop} {a : Act} {w : World} {l : List Oper} (n : Nat) (hm : P.follows .mixedOrders = true) (hB : Region.lexTailB .any l.toArray n = true)
    (h : ∀ V : World, V = w.drew → wpStill P l.toArray V (fun a' => wpList P l.toArray Q (l.drop n) a' V) (l.take n) a) : (Code.region id l.toArray true).wp P Q a w :=
  wp_region_still_tail n hm hB (h _ rfl)

end Go.Proofs.Ytmchpaccdnnilaa.Tr

/- Pure: where the keys at the beginning of a text end. -/
namespace Go.Proofs.Ytmchpaccdnnilaa.Tr
open Go.RowKit
set_option linter.unusedVariables false

/-- How long a text's key is from a place on, with its end; 0 without one. -/
def txtF (s : ByteArray) (i : Nat) : Nat := if h : i + 1 < s.size then (if s[i] = 0 ∧ s[i + 1] = 0 then i + 2 else txtF s (i + 1)) else 0
  termination_by s.size - i
theorem txtF_end (s : ByteArray) (i : Nat) (h : ¬ i + 1 < s.size) : txtF s i = 0 := by rw [txtF, dif_neg h]
theorem txtF_hit (s : ByteArray) (i : Nat) (h : i + 1 < s.size) (h0 : s[i] = 0) (h1 : s[i + 1] = 0) : txtF s i = i + 2 := by rw [txtF, dif_pos h, if_pos ⟨h0, h1⟩]
theorem txtF_miss (s : ByteArray) (i : Nat) (h : i + 1 < s.size) (h0 : ¬ (s[i] = 0 ∧ s[i + 1] = 0)) : txtF s i = txtF s (i + 1) := by rw [txtF, dif_pos h, if_neg h0]
theorem txtF_one (s : ByteArray) (i : Nat) (h : i < s.size) (h0 : s[i] ≠ 0) : txtF s i = txtF s (i + 1) := by
  by_cases h1 : i + 1 < s.size
  · exact txtF_miss s i h1 (fun e => h0 e.1)
  · rw [txtF_end s i h1, txtF_end s (i + 1) (by omega)]
theorem txtF_two (s : ByteArray) (i : Nat) (h : i + 1 < s.size) (h1 : s[i + 1] ≠ 0) : txtF s i = txtF s (i + 2) := by
  rw [txtF_miss s i h (fun e => h1 e.2)]
  exact txtF_one s (i + 1) h h1
theorem txtF_le (s : ByteArray) : ∀ (n i : Nat), s.size - i ≤ n → txtF s i ≤ s.size
  | 0, i, hn => by rw [txtF_end s i (by omega)]; omega
  | n + 1, i, hn => by
    by_cases h : i + 1 < s.size
    · by_cases h0 : s[i] = 0 ∧ s[i + 1] = 0
      · rw [txtF_hit s i h h0.1 h0.2]; omega
      · rw [txtF_miss s i h h0]; exact txtF_le s n (i + 1) (by omega)
    · rw [txtF_end s i h]; omega
/-- How long the escaped text at the beginning is. -/
def txt0 (s : ByteArray) : Nat := txtF s 0
theorem txt0_le (s : ByteArray) : txt0 s ≤ s.size := txtF_le s s.size 0 (by omega)

/-- What stands from a place on. -/
def from_ (s : ByteArray) (i : Nat) : ByteArray := s.extract i s.size
theorem from_size (s : ByteArray) (i : Nat) : (from_ s i).size = s.size - i := by unfold from_; simp

/-- How long one field or item is, its name ahead of it; 0 if there is none. -/
def stepK (L : ByteArray → Nat) (named : Bool) (s : ByteArray) (i : Nat) (h : i < s.size) : Nat :=
  if named then (if s[i] = 1 then (if txt0 (from_ s (i + 1)) = 0 then 0 else if L (from_ s (i + 1 + txt0 (from_ s (i + 1)))) = 0 then 0 else 1 + txt0 (from_ s (i + 1)) + L (from_ s (i + 1 + txt0 (from_ s (i + 1))))) else 0)
  else L (from_ s i)
def manyK (L : ByteArray → Nat) (named : Bool) (s : ByteArray) (i : Nat) : Nat :=
  if h : i < s.size then (if s[i] = 0 then i + 1 else if hk : stepK L named s i h = 0 then 0 else manyK L named s (i + stepK L named s i h)) else 0
  termination_by s.size - i
def lenK : Nat → ByteArray → Nat
  | 0, _ => 0
  | f + 1, s => if h : 0 < s.size then
      (if s[0] = 1 then 1 else if s[0] = 2 then (if 2 ≤ s.size then 2 else 0) else if s[0] = 3 then (if 9 ≤ s.size then 9 else 0)
      else if s[0] = 4 then (if txt0 (from_ s 1) = 0 then 0 else 1 + txt0 (from_ s 1))
      else if s[0] = 5 then manyK (lenK f) false s 1 else if s[0] = 6 then manyK (lenK f) true s 1 else 0) else 0
theorem lenK_pos (f : Nat) (s : ByteArray) (h : 0 < s.size) : lenK (f + 1) s = (if s[0] = 1 then 1 else if s[0] = 2 then (if 2 ≤ s.size then 2 else 0) else if s[0] = 3 then (if 9 ≤ s.size then 9 else 0)
      else if s[0] = 4 then (if txt0 (from_ s 1) = 0 then 0 else 1 + txt0 (from_ s 1))
      else if s[0] = 5 then manyK (lenK f) false s 1 else if s[0] = 6 then manyK (lenK f) true s 1 else 0) := by rw [lenK, dif_pos h]

theorem manyK_end (L : ByteArray → Nat) (named : Bool) (s : ByteArray) (i : Nat) (h : ¬ i < s.size) : manyK L named s i = 0 := by rw [manyK, dif_neg h]
theorem manyK_zero (L : ByteArray → Nat) (named : Bool) (s : ByteArray) (i : Nat) (h : i < s.size) (h0 : s[i] = 0) : manyK L named s i = i + 1 := by rw [manyK, dif_pos h, if_pos h0]
theorem manyK_bad (L : ByteArray → Nat) (named : Bool) (s : ByteArray) (i : Nat) (h : i < s.size) (h0 : s[i] ≠ 0) (hk : stepK L named s i h = 0) : manyK L named s i = 0 := by rw [manyK, dif_pos h, if_neg h0, dif_pos hk]
theorem manyK_step (L : ByteArray → Nat) (named : Bool) (s : ByteArray) (i : Nat) (h : i < s.size) (h0 : s[i] ≠ 0) (hk : stepK L named s i h ≠ 0) : manyK L named s i = manyK L named s (i + stepK L named s i h) := by rw [manyK, dif_pos h, if_neg h0, dif_neg hk]

theorem stepK_le (L : ByteArray → Nat) (hL : ∀ s, L s ≤ s.size) (named : Bool) (s : ByteArray) (i : Nat) (h : i < s.size) : i + stepK L named s i h ≤ s.size := by
  unfold stepK
  have h1 := txt0_le (from_ s (i + 1))
  have h2 := hL (from_ s (i + 1 + txt0 (from_ s (i + 1))))
  have h3 := hL (from_ s i)
  rw [from_size] at h1 h2 h3
  split
  · split
    · split
      · omega
      · split <;> omega
    · omega
  · omega
theorem manyK_le (L : ByteArray → Nat) (hL : ∀ s, L s ≤ s.size) (named : Bool) (s : ByteArray) : ∀ (n i : Nat), s.size - i ≤ n → manyK L named s i ≤ s.size
  | 0, i, hn => by rw [manyK_end L named s i (by omega)]; omega
  | n + 1, i, hn => by
    by_cases h : i < s.size
    · by_cases h0 : s[i] = 0
      · rw [manyK_zero L named s i h h0]; omega
      · by_cases hk : stepK L named s i h = 0
        · rw [manyK_bad L named s i h h0 hk]; omega
        · rw [manyK_step L named s i h h0 hk]; exact manyK_le L hL named s n _ (by omega)
    · rw [manyK_end L named s i h]; omega
theorem lenK_le : ∀ (f : Nat) (s : ByteArray), lenK f s ≤ s.size
  | 0, s => by unfold lenK; omega
  | f + 1, s => by
    unfold lenK
    have ht := txt0_le (from_ s 1)
    rw [from_size] at ht
    have h5 := manyK_le (lenK f) (lenK_le f) false s s.size 1 (by omega)
    have h6 := manyK_le (lenK f) (lenK_le f) true s s.size 1 (by omega)
    by_cases h : 0 < s.size
    · rw [dif_pos h]; repeat' split
      all_goals omega
    · rw [dif_neg h]; omega

/-- The first keys of a text, and what stands behind them. -/
def splitK (f : Nat) : Nat → ByteArray → Option (List ByteArray × ByteArray)
  | 0, s => some ([], s)
  | n + 1, s => if lenK f s = 0 then none else (splitK f n (from_ s (lenK f s))).map fun r => (s.extract 0 (lenK f s) :: r.1, r.2)
def splB (s : ByteArray) (n : Nat) : Option (List ByteArray) :=
  (splitK s.size n s).bind fun r => if r.2.size = 0 then some r.1 else none

end Go.Proofs.Ytmchpaccdnnilaa.Tr

/- How long the key of a right value is at most, and that keys one behind the other are split where they end. Nothing of the program is used here. -/
namespace Go.Proofs.Ytmchpaccdnnilaa
open Go.RowKit
set_option linter.unusedVariables false

/-- How many bytes a value's bytes are. -/
def encN (v : Val) : Nat := if v.k = 0 then 1 else if v.k = 1 then 2 else if v.k = 2 then 9 else 3 + v.t.size
theorem cutV_encN {s b : ByteArray} {v : Val} (h : cutV s = some (v, b)) : encN v + b.size ≤ s.size := by
  unfold cutV at h
  split at h
  · cases h
  · rename_i hz
    have hr : ∀ {c : Nat} {r b : ByteArray} {v : Val}, cutR c r = some (v, b) → encN v + b.size ≤ r.size + 1 := by
      intro c r b v h
      unfold cutR at h
      split at h
      · injection h with h; injection h with h1 h2; subst h1; subst h2; simp [encN]; omega
      · split at h
        · split at h
          · cases h
          · injection h with h; injection h with h1 h2; subst h1; subst h2; simp [encN]; omega
        · split at h
          · split at h
            · cases h
            · split at h
              · cases h
              · injection h with h; injection h with h1 h2; subst h1; subst h2; simp [encN]; omega
          · split at h
            · cases hc : cutT r 2 with
              | none => rw [hc] at h; cases h
              | some p =>
                rw [hc] at h
                have h1 := cutT_sum (a := p.1) (b := p.2) hc
                injection h with h; injection h with h2 h3; subst h2; subst h3
                rename_i c0 c1 c2 c3
                simp only [encN]
                rw [if_neg (by omega), if_neg (by omega), if_neg (by omega)]
                omega
            · cases h
    have := hr h
    have e : (s.extract 1 s.size).size = s.size - 1 := ext_size s 1
    omega
theorem items_encN : ∀ (m : Nat) (t : ByteArray) (l : List Val), t.size ≤ m → items t = some l → (l.map encN).sum ≤ t.size
  | 0, t, l, hm, h => by
    rw [items_nil (by omega)] at h; injection h with h; subst h; simp
  | m + 1, t, l, hm, h => by
    by_cases hz : t.size = 0
    · rw [items_nil hz] at h; injection h with h; subst h; simp
    · cases hc : cutV t with
      | none => rw [items_none hz hc] at h; cases h
      | some p =>
        obtain ⟨v, r⟩ := p
        have hsum := cutV_encN hc
        have hs2 := cutV_sum hc
        rw [items_cons hc] at h
        cases hr : items r with
        | none => rw [hr] at h; cases h
        | some l2 =>
          rw [hr] at h; injection h with h; subst h
          have ih := items_encN m r l2 (by omega) hr
          show ((v :: l2).map encN).sum ≤ _
          rw [List.map_cons, List.sum_cons]; omega
theorem cutF_encN {s b : ByteArray} {f : Fld} (h : cutF s = some (f, b)) : 1 + f.name.size + encN f.v + b.size ≤ s.size := by
  unfold cutF at h
  cases hc : cutT s 1 with
  | none => rw [hc] at h; cases h
  | some p =>
    rw [hc] at h
    have h1 := cutT_sum (a := p.1) (b := p.2) hc
    cases hv : cutV p.2 with
    | none => simp only [hv] at h; cases h
    | some q =>
      simp only [hv] at h; injection h with h; injection h with h2 h3; subst h2; subst h3
      have h4 := cutV_encN (v := q.1) (b := q.2) hv
      show 1 + p.1.size + encN q.1 + q.2.size ≤ _
      omega
theorem fields_encN : ∀ (m : Nat) (t : ByteArray) (l : List Fld), t.size ≤ m → fields t = some l → (l.map (fun f => 1 + f.name.size + encN f.v)).sum ≤ t.size
  | 0, t, l, hm, h => by
    rw [fields_nil (by omega)] at h; injection h with h; subst h; simp
  | m + 1, t, l, hm, h => by
    by_cases hz : t.size = 0
    · rw [fields_nil hz] at h; injection h with h; subst h; simp
    · cases hc : cutF t with
      | none => rw [fields_none hz hc] at h; cases h
      | some p =>
        obtain ⟨f, r⟩ := p
        have hsum := cutF_encN hc
        have hs2 := cutF_size hc
        rw [fields_cons hc] at h
        cases hr : fields r with
        | none => rw [hr] at h; cases h
        | some l2 =>
          rw [hr] at h; injection h with h; subst h
          have ih := fields_encN m r l2 (by omega) hr
          show ((f :: l2).map (fun f => 1 + f.name.size + encN f.v)).sum ≤ _
          rw [List.map_cons, List.sum_cons]; omega
theorem flat3_len {α : Type} (f : α → List UInt8) (g : α → Nat) : ∀ l : List α, (∀ u ∈ l, (f u).length ≤ 3 * g u) → (l.flatMap f).length ≤ 3 * (l.map g).sum
  | [], _ => by simp
  | x :: r, h => by
    have h1 := h x (by simp)
    have h2 := flat3_len f g r (fun u hu => h u (by simp [hu]))
    rw [List.flatMap_cons, List.length_append, List.map_cons, List.sum_cons]
    omega
theorem keyV_three : ∀ (d : Nat) (v : Val), fits d v = true → (keyV d v).length ≤ 3 * encN v
  | d, v, h => by
    by_cases h4 : v.k = 4
    · obtain ⟨hs, hi, hl, d', rfl, hall⟩ := list_parts d v h h4
      rw [keyV_list d' v h4]
      have h1 := flat3_len (keyV d') encN (itms v) (fun u hu => keyV_three d' u (hall u hu).1)
      have h2 := items_encN v.t.size v.t (itms v) (Nat.le_refl _) hi
      have e : encN v = 3 + v.t.size := by unfold encN; rw [if_neg (by omega), if_neg (by omega), if_neg (by omega)]
      simp only [List.length_cons, List.length_append, List.length_nil]
      omega
    · by_cases h5 : v.k = 5
      · obtain ⟨hs, hi, hl, _, d', rfl, hall, _⟩ := doc_parts d v h h5
        rw [keyV_doc d' v h5]
        have h1 := flat3_len (fieldK (keyV d')) (fun f => 1 + f.name.size + encN f.v) (flds v) (fun f hf => by
          have i1 := keyV_three d' f.v (hall f hf).1
          have i2 := txtK_len f.name.data.toList
          have i3 := toList_length f.name
          unfold fieldK
          rw [List.length_cons, List.length_append]
          omega)
        have h2 := fields_encN v.t.size v.t (flds v) (Nat.le_refl _) hi
        have e : encN v = 3 + v.t.size := by unfold encN; rw [if_neg (by omega), if_neg (by omega), if_neg (by omega)]
        simp only [List.length_cons, List.length_append, List.length_nil]
        omega
      · rw [keyV_base d v h4 h5]
        rw [fits_base d v h4 h5] at h
        have hl := toList_length v.t
        have l1 : (u8s (numB v.n 1)).length = 1 := by rw [u8s_len, numB_len]
        have l2 : (u8s (numB (v.n + 4611686018427387904) 8)).length = 8 := by rw [u8s_len, numB_len]
        have l3 := txtK_len v.t.data.toList
        unfold baseK encN
        rw [List.length_cons]
        rcases base_parts v h with ⟨k, _⟩ | ⟨k, _⟩ | ⟨k, _⟩ | ⟨k, _⟩
        · rw [if_neg (by omega), if_neg (by omega), if_neg (by omega), if_pos k]; simp
        · rw [if_pos k, if_neg (by omega), if_pos k]; omega
        · rw [if_neg (by omega), if_pos k, if_neg (by omega), if_neg (by omega), if_pos k]; omega
        · rw [if_neg (by omega), if_neg (by omega), if_pos k, if_neg (by omega), if_neg (by omega), if_neg (by omega)]; omega
  termination_by d => d
theorem key_short (v : Val) (h : okB v = true) : (keyV 5 v).length ≤ 1000 := by
  have h1 := keyV_three 5 v h
  have h2 : encN v ≤ 303 := by
    have h3 : v.t.size ≤ 300 := by
      rcases Nat.lt_or_ge 300 v.t.size with h' | h'
      · have := fits_big 5 v h'; unfold okB at h; rw [h] at this; cases this
      · exact h'
    unfold encN
    (repeat' split) <;> omega
  omega

theorem from_mk (l : List UInt8) (i : Nat) : Tr.from_ (mkB l) i = mkB (l.drop i) := by
  apply ba_ext
  unfold Tr.from_
  rw [extract_list, mkB_data, mkB_data, mkB_size]
  exact List.take_of_length_le (by simp)
theorem mk_get (l : List UInt8) (i : Nat) (h : i < (mkB l).size) (h2 : i < l.length) : (mkB l)[i]'h = l[i]'h2 := by
  have := get_data (mkB l) i h (by rw [mkB_data]; exact h2)
  refine this.symm.trans ?_
  simp only [mkB_data]
theorem get_behind {p r : List UInt8} {c : UInt8} (h : p.length < (p ++ c :: r).length) : (p ++ c :: r)[p.length] = c := by
  simp
/-- The end of an escaped text, wherever it stands. -/
theorem txtF_key : ∀ (t p r : List UInt8), Tr.txtF (mkB (p ++ (txtK t ++ r))) p.length = p.length + (txtK t).length
  | [], p, r => by
    have e : p ++ (txtK [] ++ r) = p ++ 0 :: (0 :: r) := rfl
    have e2 : p ++ 0 :: (0 :: r) = (p ++ [0]) ++ 0 :: r := by simp
    rw [e]
    have hs : p.length + 1 < (mkB (p ++ 0 :: (0 :: r))).size := by rw [mkB_size]; simp
    rw [Tr.txtF_hit _ _ hs (by rw [mk_get _ _ (by omega) (by simp)]; simp) (by rw [mk_get _ _ hs (by simp)]; simp)]
    rfl
  | c :: t, p, r => by
    have hc : txtK (c :: t) = (if c = 0 then [0, 255] else [c]) ++ txtK t := by unfold txtK escL; rw [List.flatMap_cons, List.append_assoc]
    rw [hc]
    by_cases h0 : c = 0
    · rw [if_pos h0]
      have e : p ++ (([0, 255] ++ txtK t) ++ r) = (p ++ [0, 255]) ++ (txtK t ++ r) := by simp
      have ih := txtF_key t (p ++ [0, 255]) r
      rw [e]
      have hs : p.length + 1 < (mkB ((p ++ [0, 255]) ++ (txtK t ++ r))).size := by rw [mkB_size]; simp
      rw [Tr.txtF_two _ _ hs (by rw [mk_get _ _ hs (by simp)]; simp)]
      have el : (p ++ [0, 255]).length = p.length + 2 := by simp
      rw [el] at ih
      rw [ih]; simp; omega
    · rw [if_neg h0]
      have e : p ++ (([c] ++ txtK t) ++ r) = (p ++ [c]) ++ (txtK t ++ r) := by simp
      have ih := txtF_key t (p ++ [c]) r
      rw [e]
      have hs : p.length < (mkB ((p ++ [c]) ++ (txtK t ++ r))).size := by rw [mkB_size]; simp
      rw [Tr.txtF_one _ _ hs (by rw [mk_get _ _ hs (by simp)]; simpa using h0)]
      have el : (p ++ [c]).length = p.length + 1 := by simp
      rw [el] at ih
      rw [ih]; simp; omega
theorem txt0_key (t r : List UInt8) : Tr.txt0 (mkB (txtK t ++ r)) = (txtK t).length := by
  have := txtF_key t [] r
  simpa [Tr.txt0] using this
theorem txtK_pos (t : List UInt8) : 2 ≤ (txtK t).length := by unfold txtK; simp
theorem drop_pre (p r : List UInt8) : (p ++ r).drop p.length = r := by simp
/-- Many keys, one behind the other. -/
theorem manyK_items {α : Type} (L : ByteArray → Nat) (f : α → List UInt8) : ∀ (l : List α) (p r : List UInt8), (∀ u ∈ l, (∀ q, L (mkB (f u ++ q)) = (f u).length) ∧ ∃ c q, c ≠ 0 ∧ f u = c :: q) →
    Tr.manyK L false (mkB (p ++ (l.flatMap f ++ 0 :: r))) p.length = p.length + ((l.flatMap f).length + 1)
  | [], p, r, _ => by
    have hs : p.length < (mkB (p ++ (([] : List α).flatMap f ++ 0 :: r))).size := by rw [mkB_size]; simp
    rw [Tr.manyK_zero _ _ _ _ hs (by rw [mk_get _ _ hs (by simp)]; simp)]
    simp
  | x :: l, p, r, h => by
    obtain ⟨hL, c, q, hc, hq⟩ := h x (by simp)
    have e : p ++ ((x :: l).flatMap f ++ 0 :: r) = (p ++ f x) ++ (l.flatMap f ++ 0 :: r) := by simp
    have e2 : p ++ ((x :: l).flatMap f ++ 0 :: r) = p ++ (f x ++ (l.flatMap f ++ 0 :: r)) := by simp
    have ih := manyK_items L f l (p ++ f x) r (fun u hu => h u (by simp [hu]))
    have hs : p.length < (mkB (p ++ ((x :: l).flatMap f ++ 0 :: r))).size := by rw [mkB_size]; simp; omega
    have hl1 : 1 ≤ (f x).length := by rw [hq]; simp
    have hstep : Tr.stepK L false (mkB (p ++ ((x :: l).flatMap f ++ 0 :: r))) p.length hs = (f x).length := by
      unfold Tr.stepK
      rw [if_neg (by simp), from_mk, e2, drop_pre]
      exact hL _
    rw [Tr.manyK_step _ _ _ _ hs (by rw [mk_get _ _ hs (by simp; omega)]; simp [hq, hc]) (by rw [hstep]; omega), hstep, e]
    have el : (p ++ f x).length = p.length + (f x).length := by simp
    rw [el] at ih
    rw [ih, List.flatMap_cons, List.length_append]; omega
theorem manyK_fields (L : ByteArray → Nat) (g : Val → List UInt8) : ∀ (l : List Fld) (p r : List UInt8), (∀ u ∈ l, (∀ q, L (mkB (g u.v ++ q)) = (g u.v).length) ∧ 1 ≤ (g u.v).length) →
    Tr.manyK L true (mkB (p ++ (l.flatMap (fieldK g) ++ 0 :: r))) p.length = p.length + ((l.flatMap (fieldK g)).length + 1)
  | [], p, r, _ => by
    have hs : p.length < (mkB (p ++ (([] : List Fld).flatMap (fieldK g) ++ 0 :: r))).size := by rw [mkB_size]; simp
    rw [Tr.manyK_zero _ _ _ _ hs (by rw [mk_get _ _ hs (by simp)]; simp)]
    simp
  | x :: l, p, r, h => by
    obtain ⟨hL, hl1⟩ := h x (by simp)
    have e : p ++ ((x :: l).flatMap (fieldK g) ++ 0 :: r) = (p ++ fieldK g x) ++ (l.flatMap (fieldK g) ++ 0 :: r) := by simp
    have e2 : p ++ ((x :: l).flatMap (fieldK g) ++ 0 :: r) = (p ++ [1]) ++ (txtK x.name.data.toList ++ (g x.v ++ (l.flatMap (fieldK g) ++ 0 :: r))) := by simp [fieldK]
    have e3 : p ++ ((x :: l).flatMap (fieldK g) ++ 0 :: r) = (p ++ ([1] ++ txtK x.name.data.toList)) ++ (g x.v ++ (l.flatMap (fieldK g) ++ 0 :: r)) := by simp [fieldK]
    have ih := manyK_fields L g l (p ++ fieldK g x) r (fun u hu => h u (by simp [hu]))
    have hs : p.length < (mkB (p ++ ((x :: l).flatMap (fieldK g) ++ 0 :: r))).size := by rw [mkB_size]; simp; omega
    have hk := txtK_pos x.name.data.toList
    have hfl : (fieldK g x).length = 1 + (txtK x.name.data.toList).length + (g x.v).length := by unfold fieldK; simp; omega
    have hg0 : (mkB (p ++ ((x :: l).flatMap (fieldK g) ++ 0 :: r)))[p.length] = 1 := by rw [mk_get _ _ hs (by simp; omega)]; simp [fieldK]
    have h1 : Tr.txt0 (Tr.from_ (mkB (p ++ ((x :: l).flatMap (fieldK g) ++ 0 :: r))) (p.length + 1)) = (txtK x.name.data.toList).length := by
      rw [from_mk, e2, show p.length + 1 = (p ++ [1]).length by simp, drop_pre]
      exact txt0_key _ _
    have h2 : L (Tr.from_ (mkB (p ++ ((x :: l).flatMap (fieldK g) ++ 0 :: r))) (p.length + 1 + (txtK x.name.data.toList).length)) = (g x.v).length := by
      rw [from_mk, e3, show p.length + 1 + (txtK x.name.data.toList).length = (p ++ ([1] ++ txtK x.name.data.toList)).length by simp; omega, drop_pre]
      exact hL _
    have hstep : Tr.stepK L true (mkB (p ++ ((x :: l).flatMap (fieldK g) ++ 0 :: r))) p.length hs = (fieldK g x).length := by
      unfold Tr.stepK
      rw [if_pos rfl, if_pos hg0, h1, if_neg (by omega), h2, if_neg (by omega)]
      omega
    rw [Tr.manyK_step _ _ _ _ hs (by rw [hg0]; decide) (by rw [hstep]; omega), hstep, e]
    have el : (p ++ fieldK g x).length = p.length + (fieldK g x).length := by simp
    rw [el] at ih
    rw [ih, List.flatMap_cons, List.length_append]; omega
theorem mem_flat_len {α : Type} (f : α → List UInt8) : ∀ (l : List α) (u : α), u ∈ l → (f u).length ≤ (l.flatMap f).length
  | [], u, h => by simp at h
  | x :: l, u, h => by
    rw [List.flatMap_cons, List.length_append]
    rcases List.mem_cons.mp h with h | h
    · subst h; omega
    · have := mem_flat_len f l u h; omega
/-- **The end of a right value's key is found, whatever stands behind it.** -/
theorem lenK_key : ∀ (d : Nat) (v : Val), fits d v = true → ∀ (f : Nat) (q : List UInt8), (keyV d v).length ≤ f → Tr.lenK f (mkB (keyV d v ++ q)) = (keyV d v).length
  | d, v, h, f, q, hf => by
    obtain ⟨r0, hr0⟩ := keyV_head d v
    have hk := fits_kind d v h
    have hkb := kb_nat v.k hk.1 hk.2
    have hl1 : 1 ≤ (keyV d v).length := by rw [hr0]; simp
    obtain ⟨f, rfl⟩ : ∃ f', f = f' + 1 := ⟨f - 1, by omega⟩
    have hs : 0 < (mkB (keyV d v ++ q)).size := by rw [mkB_size]; simp; omega
    have h0 : (mkB (keyV d v ++ q))[0] = kb v.k := by rw [mk_get _ _ hs (by simp; omega)]; simp [hr0]
    rw [Tr.lenK_pos f _ hs, h0]
    have kne : ∀ n : Nat, n < 7 → (kb v.k = UInt8.ofNat n ↔ v.k + 1 = n) := fun n hn => by
      rw [← UInt8.toNat_inj, UInt8.toNat_ofNat']
      omega
    have k1 := kne 1 (by omega)
    have k2 := kne 2 (by omega)
    have k3 := kne 3 (by omega)
    have k4 := kne 4 (by omega)
    have k5 := kne 5 (by omega)
    have k6 := kne 6 (by omega)
    simp only [UInt8.reduceOfNat] at k1 k2 k3 k4 k5 k6
    by_cases h4 : v.k = 4
    · obtain ⟨_, _, _, d', rfl, hall⟩ := list_parts d v h h4
      rw [if_neg (by rw [k1]; omega), if_neg (by rw [k2]; omega), if_neg (by rw [k3]; omega), if_neg (by rw [k4]; omega), if_pos (by rw [k5]; omega)]
      have hlen : (keyV (d' + 1) v).length = ((itms v).flatMap (keyV d')).length + 2 := by rw [keyV_list d' v h4]; simp
      have e : keyV (d' + 1) v ++ q = [5] ++ ((itms v).flatMap (keyV d') ++ 0 :: q) := by rw [keyV_list d' v h4]; simp
      rw [e]
      have := manyK_items (Tr.lenK f) (keyV d') (itms v) [5] q (fun u hu => by
        have hu1 := (hall u hu).1
        have hku := fits_kind d' u hu1
        obtain ⟨ru, hru⟩ := keyV_head d' u
        have hm := mem_flat_len (keyV d') (itms v) u hu
        exact ⟨fun q => lenK_key d' u hu1 f q (by omega), _, _, kb_ne0 _ hku.1 hku.2, hru⟩)
      rw [show ([5] : List UInt8).length = 1 from rfl] at this
      rw [this]; omega
    · by_cases h5 : v.k = 5
      · obtain ⟨_, _, _, _, d', rfl, hall, _⟩ := doc_parts d v h h5
        rw [if_neg (by rw [k1]; omega), if_neg (by rw [k2]; omega), if_neg (by rw [k3]; omega), if_neg (by rw [k4]; omega), if_neg (by rw [k5]; omega), if_pos (by rw [k6]; omega)]
        have hlen : (keyV (d' + 1) v).length = ((flds v).flatMap (fieldK (keyV d'))).length + 2 := by rw [keyV_doc d' v h5]; simp
        have e : keyV (d' + 1) v ++ q = [6] ++ ((flds v).flatMap (fieldK (keyV d')) ++ 0 :: q) := by rw [keyV_doc d' v h5]; simp
        rw [e]
        have := manyK_fields (Tr.lenK f) (keyV d') (flds v) [6] q (fun u hu => by
          have hu1 := (hall u hu).1
          obtain ⟨ru, hru⟩ := keyV_head d' u.v
          have hm := mem_flat_len (fieldK (keyV d')) (flds v) u hu
          have hx : (keyV d' u.v).length ≤ (fieldK (keyV d') u).length := by unfold fieldK; simp; omega
          exact ⟨fun q => lenK_key d' u.v hu1 f q (by omega), by rw [hru]; simp⟩)
        rw [show ([6] : List UInt8).length = 1 from rfl] at this
        rw [this]; omega
      · have hb := h
        rw [fits_base d v h4 h5] at hb
        rw [keyV_base d v h4 h5]
        have l1 : (u8s (numB v.n 1)).length = 1 := by rw [u8s_len, numB_len]
        have l2 : (u8s (numB (v.n + 4611686018427387904) 8)).length = 8 := by rw [u8s_len, numB_len]
        rcases base_parts v hb with ⟨k, _⟩ | ⟨k, _⟩ | ⟨k, _⟩ | ⟨k, _⟩
        · rw [if_pos (by rw [k1]; omega)]
          unfold baseK
          rw [if_neg (by omega), if_neg (by omega), if_neg (by omega)]; rfl
        · have e : baseK v = kb v.k :: u8s (numB v.n 1) := by unfold baseK; rw [if_pos k]
          rw [if_neg (by rw [k1]; omega), if_pos (by rw [k2]; omega), e, if_pos (by rw [mkB_size]; simp; omega)]
          simp; omega
        · have e : baseK v = kb v.k :: u8s (numB (v.n + 4611686018427387904) 8) := by unfold baseK; rw [if_neg (by omega), if_pos k]
          rw [if_neg (by rw [k1]; omega), if_neg (by rw [k2]; omega), if_pos (by rw [k3]; omega), e, if_pos (by rw [mkB_size]; simp; omega)]
          simp; omega
        · have e : baseK v = kb v.k :: txtK v.t.data.toList := by unfold baseK; rw [if_neg (by omega), if_neg (by omega), if_pos k]
          have hp := txtK_pos v.t.data.toList
          have ht : Tr.txt0 (Tr.from_ (mkB (kb v.k :: txtK v.t.data.toList ++ q)) 1) = (txtK v.t.data.toList).length := by
            rw [from_mk]
            exact txt0_key _ _
          rw [if_neg (by rw [k1]; omega), if_neg (by rw [k2]; omega), if_neg (by rw [k3]; omega), if_pos (by rw [k4]; omega), e, ht, if_neg (by omega)]
          simp; omega
  termination_by d => d
/-- Two keys, one behind the other, are split into these two, and not into three. -/
theorem split_two (a b : Val) (ha : okB a = true) (hb : okB b = true) :
    Tr.splB (mkB (keyV 5 a ++ keyV 5 b)) 2 = some [mkB (keyV 5 a), mkB (keyV 5 b)] ∧ Tr.splB (mkB (keyV 5 a ++ keyV 5 b)) 3 = none := by
  obtain ⟨ra, hra⟩ := keyV_head 5 a
  obtain ⟨rb, hrb⟩ := keyV_head 5 b
  have la : 1 ≤ (keyV 5 a).length := by rw [hra]; simp
  have lb : 1 ≤ (keyV 5 b).length := by rw [hrb]; simp
  have hsz : (mkB (keyV 5 a ++ keyV 5 b)).size = (keyV 5 a).length + (keyV 5 b).length := by rw [mkB_size]; simp
  have h1 := lenK_key 5 a ha ((keyV 5 a).length + (keyV 5 b).length) (keyV 5 b) (by omega)
  have h2 := lenK_key 5 b hb ((keyV 5 a).length + (keyV 5 b).length) [] (by omega)
  rw [List.append_nil] at h2
  have f1 : Tr.from_ (mkB (keyV 5 a ++ keyV 5 b)) (keyV 5 a).length = mkB (keyV 5 b) := by rw [from_mk, drop_pre]
  have f2 : Tr.from_ (mkB (keyV 5 b)) (keyV 5 b).length = mkB [] := by rw [from_mk]; simp
  have x1 : (mkB (keyV 5 a ++ keyV 5 b)).extract 0 (keyV 5 a).length = mkB (keyV 5 a) := by
    apply ba_ext; rw [extract_list, mkB_data, mkB_data]; simp
  have x2 : (mkB (keyV 5 b)).extract 0 (keyV 5 b).length = mkB (keyV 5 b) := by
    apply ba_ext; rw [extract_list, mkB_data]; simp
  have h3 : ∀ f, Tr.lenK f (mkB []) = 0 := fun f => by
    have := Tr.lenK_le f (mkB [])
    rw [mkB_size] at this
    simpa using this
  unfold Tr.splB
  rw [hsz]
  refine ⟨?_, ?_⟩
  · rw [Tr.splitK, h1, if_neg (by omega), f1, Tr.splitK, h2, if_neg (by omega), f2, Tr.splitK, x1, x2]
    rfl
  · rw [Tr.splitK, h1, if_neg (by omega), f1, Tr.splitK, h2, if_neg (by omega), f2, Tr.splitK, h3, if_pos rfl]
    rfl

end Go.Proofs.Ytmchpaccdnnilaa
