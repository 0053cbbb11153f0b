/- Entries, pages and trees said plainly: what makes a tree right, and where an entry's page is. Nothing of the program is used here. -/
import Derived.WalkKit
import Derived.Lib.Small
import Derived.Lib.Bytealg
namespace Go.Proofs.YthjimbnpkkpbkaaGreatDoor.Tr
open Go.RowKit
set_option linter.unusedVariables false

def cB (a b : ByteArray) : Int := Lib.compareBytes a.data.toList b.data.toList
abbrev em : ByteArray := ⟨#[]⟩
abbrev cI (x y : Int) : Int := Lib.compareInt x y
theorem cI_zero (x y : Int) : cI x y = 0 ↔ x = y := by unfold cI Lib.compareInt; constructor <;> intro h <;> (repeat' split at *) <;> omega
theorem cI_range (x y : Int) : -1 ≤ cI x y ∧ cI x y ≤ 1 := by unfold cI Lib.compareInt; (repeat' split) <;> omega
theorem cI_ne (x y : Int) (h : x ≠ y) : cI x y = if y < x then 1 else -1 := by unfold cI Lib.compareInt; (repeat' split) <;> omega
theorem bytes_zero : ∀ a b : List UInt8, Lib.compareBytes a b = 0 ↔ a = b
  | [], [] => by simp [Lib.compareBytes]
  | [], _ :: _ => by simp [Lib.compareBytes]
  | _ :: _, [] => by simp [Lib.compareBytes]
  | a :: l, b :: m => by
    have ih := bytes_zero l m
    unfold Lib.compareBytes
    by_cases h1 : a < b
    · rw [if_pos h1]
      constructor
      · intro h; cases h
      · intro h; injection h with h _; subst h; simp at h1
    · rw [if_neg h1]
      by_cases h2 : b < a
      · rw [if_pos h2]
        constructor
        · intro h; cases h
        · intro h; injection h with h _; subst h; simp at h2
      · rw [if_neg h2, ih]
        have : a = b := by apply UInt8.toNat_inj.mp; simp [UInt8.lt_iff_toNat_lt] at *; omega
        subst this
        simp
theorem bytes_range : ∀ a b : List UInt8, -1 ≤ Lib.compareBytes a b ∧ Lib.compareBytes a b ≤ 1
  | [], [] => by simp [Lib.compareBytes]
  | [], _ :: _ => by simp [Lib.compareBytes]
  | _ :: _, [] => by simp [Lib.compareBytes]
  | a :: l, b :: m => by
    have ih := bytes_range l m
    unfold Lib.compareBytes
    (repeat' split) <;> first | omega | exact ih
theorem bytes_less : ∀ a b : List UInt8, a ≠ b → Lib.compareBytes a b = if Op.bytesLess b a = true then 1 else -1
  | [], [], h => absurd rfl h
  | [], _ :: _, _ => by simp [Lib.compareBytes, Op.bytesLess]
  | _ :: _, [], _ => by simp [Lib.compareBytes, Op.bytesLess]
  | a :: l, b :: m, h => by
    unfold Lib.compareBytes
    by_cases h1 : a < b
    · have h2 : ¬ b < a := by simp [UInt8.lt_iff_toNat_lt] at *; omega
      have h3 : ¬ b = a := by intro e; subst e; simp at h1
      rw [if_pos h1]; simp [Op.bytesLess, h2, h3]
    · rw [if_neg h1]
      by_cases h2 : b < a
      · rw [if_pos h2]; simp [Op.bytesLess, h2]
      · have e : a = b := by apply UInt8.toNat_inj.mp; simp [UInt8.lt_iff_toNat_lt] at *; omega
        subst e
        rw [if_neg h2, bytes_less l m (fun e => h (by rw [e]))]
        simp [Op.bytesLess]
theorem ba_ext {a b : ByteArray} (h : a.data.toList = b.data.toList) : a = b := by apply ByteArray.ext; apply Array.ext'; exact h
theorem cB_zero (a b : ByteArray) : cB a b = 0 ↔ a = b := by
  unfold cB; rw [bytes_zero]
  exact ⟨ba_ext, fun h => by rw [h]⟩
theorem cB_range (a b : ByteArray) : -1 ≤ cB a b ∧ cB a b ≤ 1 := bytes_range _ _
theorem cB_ne (a b : ByteArray) (h : a ≠ b) : cB a b = if Op.bytesLess b.toList a.toList = true then 1 else -1 := by
  unfold cB
  rw [ByteArray.toList_eq, ByteArray.toList_eq]
  exact bytes_less _ _ (fun e => h (ba_ext e))
theorem less_total : ∀ x y : List UInt8, (Op.bytesLess y x || y == x) = !(Op.bytesLess x y)
  | x, [] => by cases x <;> simp [Op.bytesLess]
  | [], b :: y => by simp [Op.bytesLess]
  | a :: x, b :: y => by
    have ih := less_total x y
    simp only [Op.bytesLess]
    by_cases h1 : a < b
    · have h2 : ¬ b < a := by simp [UInt8.lt_iff_toNat_lt] at *; omega
      have h3 : ¬ b = a := by intro e; subst e; simp at h1
      simp [h1, h2, h3]
    · by_cases h4 : b < a
      · have h3 : ¬ a = b := by intro e; subst e; simp at h4
        have h3' : ¬ b = a := fun e => h3 e.symm
        simp [h1, h4, h3]
      · have h3 : a = b := by
          apply UInt8.toNat_inj.mp
          simp [UInt8.lt_iff_toNat_lt] at *; omega
        subst h3
        simpa [h1] using ih
theorem less_trans : ∀ x y z : List UInt8, Op.bytesLess x y = true → Op.bytesLess y z = true → Op.bytesLess x z = true
  | x, [], z, h, _ => by cases x <;> simp [Op.bytesLess] at h
  | x, b :: y, [], _, h => by simp [Op.bytesLess] at h
  | [], b :: y, c :: z, _, _ => by simp [Op.bytesLess]
  | a :: x, b :: y, c :: z, h1, h2 => by
    have ih := less_trans x y z
    simp only [Op.bytesLess] at h1 h2 ⊢
    by_cases hab : a < b
    · by_cases hbc : b < c
      · have : a < c := by simp [UInt8.lt_iff_toNat_lt] at *; omega
        simp [this]
      · have hbc2 : b = c := by
          by_cases hcb : b = c
          · exact hcb
          · simp [hbc, hcb] at h2
        subst hbc2; simp [hab]
    · have hab2 : a = b := by
        by_cases e : a = b
        · exact e
        · simp [hab, e] at h1
      subst hab2
      by_cases hbc : a < c
      · simp [hbc]
      · have hbc2 : a = c := by
          by_cases e : a = c
          · exact e
          · simp [hbc, e] at h2
        subst hbc2
        simp at h1 h2 ⊢
        exact ih h1 h2
theorem less_irrefl : ∀ x : List UInt8, Op.bytesLess x x = false
  | [] => rfl
  | a :: x => by simp [Op.bytesLess, less_irrefl x]
theorem eqL (a b : ByteArray) : (a.toList == b.toList) = true ↔ a = b := by
  rw [beq_iff_eq]
  exact ⟨fun e => ba_ext (by rw [← ByteArray.toList_eq, ← ByteArray.toList_eq]; exact e), fun e => by rw [e]⟩
theorem eqL_false (a b : ByteArray) (h : a ≠ b) : (a.toList == b.toList) = false := by
  rw [Bool.eq_false_iff]; exact fun e => h ((eqL a b).1 e)

/-- An entry, its key as bytes. -/
structure Ent where
  key : ByteArray
  id : Int
/-- A page: its number and its entries. -/
structure Pg where
  num : Int
  es : List Ent
theorem ent_ext {a b : Ent} (h1 : a.key = b.key) (h2 : a.id = b.id) : a = b := by cases a; cases b; simp_all
def lessE (a b : Ent) : Bool := Op.bytesLess a.key.toList b.key.toList || (a.key.toList == b.key.toList && decide (a.id < b.id))
def entB (e : Ent) : Bool := decide (e.key.size ≤ 2000) && (decide (0 ≤ e.id) && decide (e.id ≤ 9999))
def cmpE (a b : Ent) : Int := if cB a.key b.key = 0 then cI a.id b.id else cB a.key b.key
theorem cmpE_key (a b : Ent) (h : a.key ≠ b.key) : cmpE a b = cB a.key b.key := by unfold cmpE; rw [if_neg (fun e => h ((cB_zero _ _).1 e))]
theorem cmpE_id (a b : Ent) (h : a.key = b.key) : cmpE a b = cI a.id b.id := by unfold cmpE; rw [if_pos ((cB_zero _ _).2 h)]
theorem cmpE_le (a b : Ent) : decide (cmpE a b ≤ 0) = !lessE b a := by
  unfold lessE
  by_cases h : a.key = b.key
  · rw [cmpE_id a b h, h, less_irrefl, (eqL _ _).2 rfl]
    unfold cI Lib.compareInt
    by_cases h1 : a.id < b.id
    · rw [if_pos h1]; simp; omega
    · by_cases h2 : b.id < a.id
      · rw [if_neg h1, if_pos h2]; simp [h2]
      · rw [if_neg h1, if_neg h2]; simp; omega
  · rw [cmpE_key a b h, cB_ne a.key b.key h, eqL_false _ _ (fun e => h e.symm)]
    cases Op.bytesLess b.key.toList a.key.toList <;> simp
theorem cmpE_lt (a b : Ent) : decide (cmpE a b < 0) = lessE a b := by
  unfold lessE
  by_cases h : a.key = b.key
  · rw [cmpE_id a b h, h, less_irrefl, (eqL _ _).2 rfl]
    unfold cI Lib.compareInt
    by_cases h1 : a.id < b.id
    · rw [if_pos h1]; simp [h1]
    · by_cases h2 : b.id < a.id
      · rw [if_neg h1, if_pos h2]; simp; omega
      · rw [if_neg h1, if_neg h2]; simp; omega
  · rw [cmpE_key a b h, cB_ne a.key b.key h, eqL_false _ _ h]
    have := less_total a.key.toList b.key.toList
    rw [eqL_false _ _ (fun e => h e.symm)] at this
    cases h2 : Op.bytesLess b.key.toList a.key.toList <;> rw [h2] at this <;> cases h3 : Op.bytesLess a.key.toList b.key.toList <;> simp_all
theorem cmpE_zero (a b : Ent) : cmpE a b = 0 ↔ a = b := by
  by_cases h : a.key = b.key
  · rw [cmpE_id a b h, cI_zero]
    exact ⟨fun e => ent_ext h e, fun e => by rw [e]⟩
  · rw [cmpE_key a b h, cB_zero]
    exact ⟨fun e => absurd e h, fun e => by rw [e]⟩
theorem lessE_irrefl (a : Ent) : lessE a a = false := by unfold lessE; simp [less_irrefl]
theorem lessE_trans {a b c : Ent} (h1 : lessE a b = true) (h2 : lessE b c = true) : lessE a c = true := by
  unfold lessE at *
  simp only [Bool.or_eq_true, Bool.and_eq_true, decide_eq_true_eq, eqL] at *
  rcases h1 with h1 | ⟨e1, h1⟩ <;> rcases h2 with h2 | ⟨e2, h2⟩
  · exact .inl (less_trans _ _ _ h1 h2)
  · rw [e2] at h1; exact .inl h1
  · rw [e1]; exact .inl h2
  · exact .inr ⟨e1.trans e2, by omega⟩
theorem lessE_total (a b : Ent) (h : a ≠ b) : lessE b a = !lessE a b := by
  rw [← cmpE_lt a b]
  have h1 := cmpE_le a b
  have h0 : cmpE a b ≠ 0 := fun e => h ((cmpE_zero a b).1 e)
  cases h2 : lessE b a <;> rw [h2] at h1 <;> simp at h1 ⊢ <;> omega

/-- An entry that stands ahead of all right ones. -/
def e0 : Ent := ⟨em, -1⟩
def sizeB (n : Nat) (p : Pg) : Bool := decide (p.es.length ≤ 4) && !(decide (p.es.length = 0) && decide (1 < n))
def numB (next : Int) (pre : List Pg) (p : Pg) : Bool := decide (1 ≤ p.num) && (decide (p.num < next) && !(pre.any fun q => decide (q.num = p.num)))
def sizesB (n : Nat) : List Pg → Bool
  | [] => true
  | p :: t => sizeB n p && sizesB n t
def numsB (next : Int) (pre : List Pg) : List Pg → Bool
  | [] => true
  | p :: t => numB next pre p && numsB next (pre ++ [p]) t
def chainB (last : Ent) : List Ent → Bool
  | [] => true
  | e :: t => (entB e && lessE last e) && chainB e t
def lastE (last : Ent) : List Ent → Ent
  | [] => last
  | e :: t => lastE e t
def entsB (last : Ent) : List Pg → Bool
  | [] => true
  | p :: t => chainB last p.es && entsB (lastE last p.es) t
def oneB (n : Nat) (next : Int) (pre : List Pg) (last : Ent) : List Pg → Bool
  | [] => true
  | p :: t => (numB next pre p && sizeB n p && chainB last p.es) && oneB n next (pre ++ [p]) (lastE last p.es) t
theorem sizesB_cons (n : Nat) (p : Pg) (t : List Pg) : sizesB n (p :: t) = (sizeB n p && sizesB n t) := rfl
theorem numsB_cons (next : Int) (pre : List Pg) (p : Pg) (t : List Pg) : numsB next pre (p :: t) = (numB next pre p && numsB next (pre ++ [p]) t) := rfl
theorem chainB_cons (last : Ent) (e : Ent) (t : List Ent) : chainB last (e :: t) = ((entB e && lessE last e) && chainB e t) := rfl
theorem entsB_cons (last : Ent) (p : Pg) (t : List Pg) : entsB last (p :: t) = (chainB last p.es && entsB (lastE last p.es) t) := rfl
theorem oneB_cons (n : Nat) (next : Int) (pre : List Pg) (last : Ent) (p : Pg) (t : List Pg) : oneB n next pre last (p :: t) = ((numB next pre p && sizeB n p && chainB last p.es) && oneB n next (pre ++ [p]) (lastE last p.es) t) := rfl
theorem lastE_cons (last e : Ent) (t : List Ent) : lastE last (e :: t) = lastE e t := rfl
theorem oneB_eq (n : Nat) (next : Int) : ∀ (l pre : List Pg) (last : Ent), oneB n next pre last l = (sizesB n l && (numsB next pre l && entsB last l))
  | [], pre, last => rfl
  | p :: t, pre, last => by
    unfold oneB sizesB numsB entsB
    rw [oneB_eq n next t]
    cases numB next pre p <;> cases sizeB n p <;> cases chainB last p.es <;> simp
def headB (ps : List Pg) (next : Int) : Bool := decide (1 ≤ ps.length) && decide (ps.length ≤ 60) && decide (2 ≤ next) && decide (next ≤ 100000)
def treeB (ps : List Pg) (next : Int) : Bool := headB ps next && (sizesB ps.length ps && (numsB next [] ps && entsB e0 ps))

/-- The page where an entry stands, or would, among the first n. -/
def atB (e : Ent) (p : Pg) : Bool := match p.es with
  | [] => false
  | f :: _ => !lessE e f
def atN (ps : List Pg) (e : Ent) (n : Nat) : Bool := match ps[n]? with
  | some p => atB e p
  | none => false
def placeU (ps : List Pg) (e : Ent) : Nat → Nat
  | 0 => 0
  | n + 1 => if (decide (1 ≤ n) && atN ps e n) = true then n else placeU ps e n
def place (ps : List Pg) (e : Ent) : Nat := placeU ps e ps.length
theorem placeU_lt (ps : List Pg) (e : Ent) : ∀ n, 0 < n → placeU ps e n < n
  | 0, h => absurd h (by omega)
  | n + 1, _ => by
    unfold placeU
    split
    · omega
    · by_cases h : n = 0
      · subst h; simp [placeU]
      · have := placeU_lt ps e n (by omega); omega
theorem place_lt (ps : List Pg) (e : Ent) (h : 0 < ps.length) : place ps e < ps.length := placeU_lt ps e _ h
def sizeP (ps : List Pg) : Nat := (ps.map fun p => p.es.length).sum

end Go.Proofs.YthjimbnpkkpbkaaGreatDoor.Tr
