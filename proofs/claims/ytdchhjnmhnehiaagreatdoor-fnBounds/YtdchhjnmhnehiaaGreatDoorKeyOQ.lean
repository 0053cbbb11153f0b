/- Keys are in the order of their values, none the beginning of another; falling, in the other order. Nothing of the program is used here. -/
import Derived.Test.YtdchhjnmhnehiaaGreatDoorKeyMQ
import Derived.Test.YtdchhjnmhnehiaaGreatDoorOrdSQ
import Derived.Test.YtdchhjnmhnehiaaGreatDoorEncUQ
import Derived.Test.YtdchhjnmhnehiaaGreatDoorSplitWQ
import Derived.Test.YtdchhjnmhnehiaaGreatDoorInsFQ
import Derived.Sort.Walk0
import Derived.Test.YtdchhjnmhnehiaaGreatDoorDkyMQ
import Derived.Test.YtdchhjnmhnehiaaGreatDoorFilMQ
import Derived.Test.YtdchhjnmhnehiaaGreatDoorTrialAQ
import Derived.Test.YtdchhjnmhnehiaaGreatDoorDrawBQ
import Derived.BigQuiet
namespace Go.Proofs.YtdchhjnmhnehiaaGreatDoor
open Go.RowKit
set_option linter.unusedVariables false

/-- Two texts part at some byte, the first one lesser (-1) or greater (1) there. -/
def Dv (s : Int) : List UInt8 → List UInt8 → Prop
  | a :: x, b :: y => (a < b ∧ s = -1) ∨ (b < a ∧ s = 1) ∨ (a = b ∧ Dv s x y)
  | _, _ => False
theorem Dv.same {s : Int} {x y : List UInt8} (c : UInt8) (h : Dv s x y) : Dv s (c :: x) (c :: y) := .inr (.inr ⟨rfl, h⟩)
theorem Dv.lt {a b : UInt8} (x y : List UInt8) (h : a < b) : Dv (-1) (a :: x) (b :: y) := .inl ⟨h, rfl⟩
theorem Dv.gt {a b : UInt8} (x y : List UInt8) (h : b < a) : Dv 1 (a :: x) (b :: y) := .inr (.inl ⟨h, rfl⟩)
theorem Dv.pre {s : Int} {x y : List UInt8} (h : Dv s x y) : ∀ p : List UInt8, Dv s (p ++ x) (p ++ y)
  | [] => h
  | c :: p => (Dv.pre h p).same c
theorem Dv.more {s : Int} : ∀ {x y : List UInt8} (u v : List UInt8), Dv s x y → Dv s (x ++ u) (y ++ v)
  | [], _, _, _, h => by cases h
  | _ :: _, [], _, _, h => by cases h
  | a :: x, b :: y, u, v, h => by
    rcases h with h | h | ⟨h, h2⟩
    · exact .inl h
    · exact .inr (.inl h)
    · exact .inr (.inr ⟨h, h2.more u v⟩)
theorem Dv.swap {s : Int} : ∀ {x y : List UInt8}, Dv s x y → Dv (-s) y x
  | [], _, h => by cases h
  | _ :: _, [], h => by cases h
  | a :: x, b :: y, h => by
    rcases h with ⟨h, rfl⟩ | ⟨h, rfl⟩ | ⟨h, h2⟩
    · exact .inr (.inl ⟨h, rfl⟩)
    · exact .inl ⟨h, rfl⟩
    · exact .inr (.inr ⟨h.symm, h2.swap⟩)
theorem Dv.one {s : Int} : ∀ {x y : List UInt8}, Dv s x y → s = -1 ∨ s = 1
  | [], _, h => by cases h
  | _ :: _, [], h => by cases h
  | a :: x, b :: y, h => by
    rcases h with ⟨h, rfl⟩ | ⟨h, rfl⟩ | ⟨h, h2⟩
    · exact .inl rfl
    · exact .inr rfl
    · exact h2.one
theorem Dv.less {s : Int} : ∀ {x y : List UInt8}, Dv s x y → Op.bytesLess x y = decide (s < 0)
  | [], _, h => by cases h
  | _ :: _, [], h => by cases h
  | a :: x, b :: y, h => by
    rcases h with ⟨h, rfl⟩ | ⟨h, rfl⟩ | ⟨rfl, h2⟩
    · simp [Op.bytesLess, h]
    · have h1 : ¬ a < b := by simp [UInt8.lt_iff_toNat_lt] at *; omega
      have h3 : ¬ a = b := by intro e; subst e; simp at h
      simp [Op.bytesLess, h1, h3]
    · have := h2.less
      simp [Op.bytesLess, this]
theorem Dv.apart {s : Int} : ∀ {x y : List UInt8}, Dv s x y → ∀ r, y ≠ x ++ r
  | [], _, h => by cases h
  | _ :: _, [], h => by cases h
  | a :: x, b :: y, h => by
    intro r e
    rw [List.cons_append] at e
    injection e with e1 e2
    rcases h with ⟨h, rfl⟩ | ⟨h, rfl⟩ | ⟨_, h2⟩
    · subst e1; simp at h
    · subst e1; simp at h
    · exact h2.apart r e2
theorem Dv.ne {s : Int} {x y : List UInt8} (h : Dv s x y) : x ≠ y := fun e => h.apart [] (by simp [e])
theorem turn_lt (a b : UInt8) (h : a < b) : (255 - b : UInt8) < 255 - a := by
  have h1 := turn_nat a
  have h2 := turn_nat b
  rw [UInt8.lt_iff_toNat_lt] at *
  omega
theorem Dv.turn {s : Int} : ∀ {x y : List UInt8}, Dv s x y → Dv (-s) (turnL x) (turnL y)
  | [], _, h => by cases h
  | _ :: _, [], h => by cases h
  | a :: x, b :: y, h => by
    rcases h with ⟨h, rfl⟩ | ⟨h, rfl⟩ | ⟨rfl, h2⟩
    · exact .inr (.inl ⟨turn_lt _ _ h, rfl⟩)
    · exact .inl ⟨turn_lt _ _ h, rfl⟩
    · exact .inr (.inr ⟨rfl, h2.turn⟩)

theorem numB_succ (n : Int) (w : Nat) : numB n (w + 1) = nb n w :: numB n w := by
  unfold numB numK
  rw [List.range_succ_eq_map, List.map_cons, List.map_map]
  congr 1
  apply List.map_congr_left
  intro j _
  simp only [Function.comp_apply]
  congr 1
  omega
theorem Dv.num (n m : Nat) : ∀ w : Nat, n % 256 ^ w < m % 256 ^ w → Dv (-1) (u8s (numB n w)) (u8s (numB m w))
  | 0, h => by simp [Nat.mod_one] at h
  | w + 1, h => by
    rw [numB_succ, numB_succ]
    show Dv (-1) (by8 (nb n w) :: u8s (numB n w)) (by8 (nb m w) :: u8s (numB m w))
    have e1 := by8_nb n w
    have e2 := by8_nb m w
    have k : ∀ x : Nat, x % 256 ^ (w + 1) = 256 ^ w * (x / 256 ^ w % 256) + x % 256 ^ w := fun x => by
      rw [Nat.pow_succ, Nat.mod_mul]; omega
    rw [k n, k m] at h
    have p : 0 < 256 ^ w := Nat.pow_pos (by omega)
    have hn := Nat.mod_lt n p
    have hm := Nat.mod_lt m p
    rcases Nat.lt_trichotomy (n / 256 ^ w % 256) (m / 256 ^ w % 256) with hh | hh | hh
    · exact Dv.lt _ _ (by rw [UInt8.lt_iff_toNat_lt, e1, e2]; exact hh)
    · have he : by8 (nb n w) = by8 (nb m w) := UInt8.toNat_inj.mp (by rw [e1, e2, hh])
      rw [he]
      rw [hh] at h
      exact (Dv.num n m w (by omega)).same _
    · have : 256 ^ w * (m / 256 ^ w % 256 + 1) ≤ 256 ^ w * (n / 256 ^ w % 256) := Nat.mul_le_mul_left _ hh
      rw [Nat.mul_add] at this
      omega
theorem Dv.int (a b : Int) (w : Nat) (h0 : 0 ≤ a) (h1 : 0 ≤ b) (h2 : a < (256 ^ w : Nat)) (h3 : b < (256 ^ w : Nat)) (hne : a ≠ b) : Dv (cI a b) (u8s (numB a w)) (u8s (numB b w)) := by
  obtain ⟨n, rfl⟩ : ∃ n : Nat, a = n := ⟨a.toNat, by omega⟩
  obtain ⟨m, rfl⟩ : ∃ m : Nat, b = m := ⟨b.toNat, by omega⟩
  have hn : n % 256 ^ w = n := Nat.mod_eq_of_lt (by omega)
  have hm : m % 256 ^ w = m := Nat.mod_eq_of_lt (by omega)
  rw [cI_ne _ _ hne]
  by_cases h : n < m
  · rw [if_neg (by omega)]
    exact Dv.num n m w (by omega)
  · rw [if_pos (by omega)]
    exact (Dv.num m n w (by omega)).swap
theorem Dv.txt : ∀ a b : List UInt8, Lib.compareBytes a b ≠ 0 → Dv (Lib.compareBytes a b) (txtK a) (txtK b)
  | [], [], h => absurd rfl h
  | [], c :: r, _ => by
    show Dv (-1) (0 :: [0]) (escL (c :: r) ++ [0, 0])
    unfold escL
    rw [List.flatMap_cons]
    by_cases h0 : c = 0
    · rw [if_pos h0]
      exact Dv.same 0 (Dv.lt _ _ (by decide))
    · rw [if_neg h0]
      exact Dv.lt _ _ (by rw [UInt8.lt_iff_toNat_lt]; rcases Nat.eq_zero_or_pos c.toNat with h | h; exact absurd (UInt8.toNat_inj.mp h) h0; exact h)
  | c :: r, [], _ => by
    show Dv 1 (escL (c :: r) ++ [0, 0]) (0 :: [0])
    unfold escL
    rw [List.flatMap_cons]
    by_cases h0 : c = 0
    · rw [if_pos h0]
      exact Dv.same 0 (Dv.gt _ _ (by decide))
    · rw [if_neg h0]
      exact Dv.gt _ _ (by rw [UInt8.lt_iff_toNat_lt]; rcases Nat.eq_zero_or_pos c.toNat with h | h; exact absurd (UInt8.toNat_inj.mp h) h0; exact h)
  | c :: r, e :: s, h => by
    have hc : ∀ (z : UInt8) (l : List UInt8), txtK (z :: l) = (if z = 0 then [0, 255] else [z]) ++ txtK l := fun z l => by
      unfold txtK escL; rw [List.flatMap_cons, List.append_assoc]
    have pos : ∀ z : UInt8, z ≠ 0 → (0 : UInt8) < z := fun z hz => by
      rw [UInt8.lt_iff_toNat_lt]; rcases Nat.eq_zero_or_pos z.toNat with h | h
      · exact absurd (UInt8.toNat_inj.mp h) hz
      · exact h
    rw [hc, hc]
    unfold Lib.compareBytes at h ⊢
    by_cases h1 : c < e
    · rw [if_pos h1]
      have he : e ≠ 0 := by intro h; subst h; simp [UInt8.lt_iff_toNat_lt] at h1
      rw [if_neg he]
      by_cases h0 : c = 0
      · rw [if_pos h0]; exact Dv.lt _ _ (pos e he)
      · rw [if_neg h0]; exact Dv.lt _ _ h1
    · rw [if_neg h1] at h ⊢
      by_cases h2 : e < c
      · rw [if_pos h2]
        have hc0 : c ≠ 0 := by intro h; subst h; simp [UInt8.lt_iff_toNat_lt] at h2
        rw [if_neg hc0]
        by_cases h0 : e = 0
        · rw [if_pos h0]; exact Dv.gt _ _ (pos c hc0)
        · rw [if_neg h0]; exact Dv.gt _ _ h2
      · rw [if_neg h2] at h ⊢
        have : c = e := by apply UInt8.toNat_inj.mp; simp [UInt8.lt_iff_toNat_lt] at *; omega
        subst this
        exact (Dv.txt r s h).pre _

/-- The first byte of a key tells the kind. -/
theorem keyV_head (d : Nat) (v : Val) : ∃ r, keyV d v = kb v.k :: r := by
  by_cases h4 : v.k = 4
  · cases d with
    | zero => exact ⟨_, rfl⟩
    | succ d => rw [keyV_list d v h4]; exact ⟨_, by rw [h4]; rfl⟩
  · by_cases h5 : v.k = 5
    · cases d with
      | zero => exact ⟨_, rfl⟩
      | succ d => rw [keyV_doc d v h5]; exact ⟨_, by rw [h5]; rfl⟩
    · rw [keyV_base d v h4 h5]; exact ⟨_, rfl⟩
theorem fits_kindK (d : Nat) (v : Val) (h : fits d v = true) : 0 ≤ v.k ∧ v.k ≤ 5 := by
  by_cases h4 : v.k = 4
  · omega
  · by_cases h5 : v.k = 5
    · omega
    · rw [fits_base d v h4 h5] at h
      unfold base at h
      (repeat' split at h) <;> first | omega | cases h
theorem kb_nat (k : Int) (h0 : 0 ≤ k) (h1 : k ≤ 5) : ((kb k).toNat : Int) = k + 1 := by
  unfold kb
  rw [UInt8.toNat_ofNat']
  omega
theorem kb_ne0 (k : Int) (h0 : 0 ≤ k) (h1 : k ≤ 5) : kb k ≠ 0 := by
  intro h
  have := kb_nat k h0 h1
  rw [h] at this
  simp at this
  omega
theorem Dv.kind {x y : List UInt8} (a b : Int) (ha : 0 ≤ a ∧ a ≤ 5) (hb : 0 ≤ b ∧ b ≤ 5) (hne : a ≠ b) : Dv (cI a b) (kb a :: x) (kb b :: y) := by
  have h1 := kb_nat a ha.1 ha.2
  have h2 := kb_nat b hb.1 hb.2
  rw [cI_ne _ _ hne]
  split
  · exact Dv.gt _ _ (by rw [UInt8.lt_iff_toNat_lt]; omega)
  · exact Dv.lt _ _ (by rw [UInt8.lt_iff_toNat_lt]; omega)
theorem Dv.list {α : Type} (p : α → α → Int) (f : α → List UInt8) (z : α → UInt8) (hz : ∀ u, ∃ r, f u = z u :: r) : ∀ (xs ys : List α), (∀ u ∈ xs, z u ≠ 0) → (∀ u ∈ ys, z u ≠ 0) →
    (∀ x ∈ xs, ∀ y ∈ ys, (p x y = 0 → x = y) ∧ (p x y ≠ 0 → Dv (p x y) (f x) (f y))) → lexG p xs ys ≠ 0 → Dv (lexG p xs ys) (xs.flatMap f ++ [0]) (ys.flatMap f ++ [0])
  | [], [], _, _, _, h => absurd rfl h
  | [], y :: ys, _, h2, _, _ => by
    obtain ⟨r, hr⟩ := hz y
    rw [List.flatMap_cons, hr]
    exact Dv.lt _ _ (by have := h2 y (by simp); rw [UInt8.lt_iff_toNat_lt]; rcases Nat.eq_zero_or_pos (z y).toNat with h | h; exact absurd (UInt8.toNat_inj.mp h) this; exact h)
  | x :: xs, [], h1, _, _, _ => by
    obtain ⟨r, hr⟩ := hz x
    rw [List.flatMap_cons, hr]
    exact Dv.gt _ _ (by have := h1 x (by simp); rw [UInt8.lt_iff_toNat_lt]; rcases Nat.eq_zero_or_pos (z x).toNat with h | h; exact absurd (UInt8.toNat_inj.mp h) this; exact h)
  | x :: xs, y :: ys, h1, h2, hp, h => by
    rw [List.flatMap_cons, List.flatMap_cons, List.append_assoc, List.append_assoc]
    unfold lexG at h ⊢
    obtain ⟨q1, q2⟩ := hp x (by simp) y (by simp)
    by_cases e : p x y = 0
    · rw [if_pos e] at h ⊢
      rw [q1 e]
      exact (Dv.list p f z hz xs ys (fun u hu => h1 u (by simp [hu])) (fun u hu => h2 u (by simp [hu])) (fun a ha b hb => hp a (by simp [ha]) b (by simp [hb])) h).pre _
    · rw [if_neg e]
      exact (q2 e).more _ _
theorem base_parts (v : Val) (h : base v = true) : (v.k = 0 ∧ v.n = 0 ∧ v.t = em) ∨ (v.k = 1 ∧ 0 ≤ v.n ∧ v.n ≤ 1 ∧ v.t = em) ∨ (v.k = 2 ∧ -1000000000000 ≤ v.n ∧ v.n ≤ 1000000000000 ∧ v.t = em) ∨ (v.k = 3 ∧ v.n = 0) := by
  unfold base at h
  split at h
  · rename_i k; rw [decide_eq_true_eq] at h; exact .inl ⟨k, h.1, empty_of _ h.2⟩
  · split at h
    · rename_i k; rw [decide_eq_true_eq] at h; exact .inr (.inl ⟨k, h.1, h.2.1, empty_of _ h.2.2⟩)
    · split at h
      · rename_i k; rw [decide_eq_true_eq] at h; exact .inr (.inr (.inl ⟨k, h.1, h.2.1, empty_of _ h.2.2⟩))
      · split at h
        · rename_i k; rw [decide_eq_true_eq] at h; exact .inr (.inr (.inr ⟨k, h.1⟩))
        · cases h
theorem fits_n (d : Nat) (v : Val) (h : fits d v = true) (hk : 3 ≤ v.k) : v.n = 0 := by
  by_cases h4 : v.k = 4
  · obtain ⟨e, l, rfl, _, hn, _⟩ := fits_items h4 h; exact hn
  · by_cases h5 : v.k = 5
    · obtain ⟨e, l, rfl, _, hn, _⟩ := fits_fields h5 h; exact hn
    · rw [fits_base d v h4 h5] at h
      rcases base_parts v h with h | h | h | h <;> omega
/-- **Keys are in the order of their values, and where two values are unlike their keys part: none is the beginning of the other.** -/
theorem keyV_order : ∀ (d : Nat) (a b : Val), fits d a = true → fits d b = true → ordV d a b ≠ 0 → Dv (ordV d a b) (keyV d a) (keyV d b)
  | d, a, b, ha, hb, h => by
    have ka := fits_kindK d a ha
    have kb' := fits_kindK d b hb
    by_cases hk : a.k = b.k
    · by_cases h4 : a.k = 4
      · obtain ⟨_, ia, _, d1, rfl, alla⟩ := list_parts d a ha h4
        obtain ⟨_, ib, _, d2, he, allb⟩ := list_parts (d1 + 1) b hb (hk ▸ h4)
        obtain rfl : d1 = d2 := by omega
        have hn : a.n = b.n := by rw [fits_n _ a ha (by omega), fits_n _ b hb (by omega)]
        have ho := ordV_list d1 a b _ _ hk hn h4 ia ib
        rw [ho] at h ⊢
        rw [keyV_list d1 a h4, keyV_list d1 b (hk ▸ h4)]
        refine Dv.same 5 (Dv.list (ordV d1) (keyV d1) (fun u => kb u.k) (keyV_head d1) _ _ ?_ ?_ ?_ h)
        · intro u hu; have := fits_kindK d1 u (alla u hu).1; exact kb_ne0 _ this.1 this.2
        · intro u hu; have := fits_kindK d1 u (allb u hu).1; exact kb_ne0 _ this.1 this.2
        · intro x hx y hy
          exact ⟨ordV_zero d1 x y (alla x hx).1 (allb y hy).1, keyV_order d1 x y (alla x hx).1 (allb y hy).1⟩
      · by_cases h5 : a.k = 5
        · obtain ⟨_, ia, _, _, d1, rfl, alla, _⟩ := doc_parts d a ha h5
          obtain ⟨_, ib, _, _, d2, he, allb, _⟩ := doc_parts (d1 + 1) b hb (hk ▸ h5)
          obtain rfl : d1 = d2 := by omega
          have hn : a.n = b.n := by rw [fits_n _ a ha (by omega), fits_n _ b hb (by omega)]
          have ho := ordV_doc d1 a b _ _ hk hn h5 ia ib
          rw [ho] at h ⊢
          rw [keyV_doc d1 a h5, keyV_doc d1 b (hk ▸ h5)]
          refine Dv.same 6 (Dv.list (cF (ordV d1)) (fieldK (keyV d1)) (fun _ => 1) (fun u => ⟨_, rfl⟩) _ _ (fun _ _ => by decide) (fun _ _ => by decide) ?_ h)
          intro x hx y hy
          unfold cF
          by_cases hc : cB x.name y.name = 0
          · have en := (cB_zero _ _).mp hc
            rw [if_pos hc]
            refine ⟨fun e => ?_, fun e => ?_⟩
            · have ev := ordV_zero d1 x.v y.v (alla x hx).1 (allb y hy).1 e
              cases x; cases y; simp_all
            · unfold fieldK
              rw [en]
              exact ((keyV_order d1 x.v y.v (alla x hx).1 (allb y hy).1 e).pre _).same 1
          · rw [if_neg hc]
            refine ⟨fun e => absurd e hc, fun _ => ?_⟩
            unfold fieldK
            exact ((Dv.txt _ _ hc).more _ _).same 1
        · have ba := ha
          have bb := hb
          rw [fits_base d a h4 h5] at ba
          rw [fits_base d b (hk ▸ h4) (hk ▸ h5)] at bb
          rw [keyV_base d a h4 h5, keyV_base d b (hk ▸ h4) (hk ▸ h5)]
          by_cases hn : a.n = b.n
          · rw [ordV_t d a b hk hn h4 h5] at h ⊢
            have hne : a.t ≠ b.t := fun e => h ((cB_zero _ _).mpr e)
            have h3 : a.k = 3 := by
              rcases base_parts a ba with ⟨k, _, t⟩ | ⟨k, _, _, t⟩ | ⟨k, _, _, t⟩ | ⟨k, _⟩
              · rcases base_parts b bb with ⟨k', _, t'⟩ | ⟨k', _, _, t'⟩ | ⟨k', _, _, t'⟩ | ⟨k', _⟩ <;> first | omega | exact absurd (t.trans t'.symm) hne
              · rcases base_parts b bb with ⟨k', _, t'⟩ | ⟨k', _, _, t'⟩ | ⟨k', _, _, t'⟩ | ⟨k', _⟩ <;> first | omega | exact absurd (t.trans t'.symm) hne
              · rcases base_parts b bb with ⟨k', _, t'⟩ | ⟨k', _, _, t'⟩ | ⟨k', _, _, t'⟩ | ⟨k', _⟩ <;> first | omega | exact absurd (t.trans t'.symm) hne
              · exact k
            have e1 : baseK a = kb a.k :: txtK a.t.data.toList := by unfold baseK; rw [if_neg (by omega), if_neg (by omega), if_pos h3]
            have e2 : baseK b = kb a.k :: txtK b.t.data.toList := by unfold baseK; rw [if_neg (by omega), if_neg (by omega), if_pos (by omega), hk]
            rw [e1, e2]
            exact (Dv.txt _ _ h).same _
          · rw [ordV_n d a b hk hn] at h ⊢
            have h12 : (a.k = 1 ∧ 0 ≤ a.n ∧ a.n ≤ 1 ∧ 0 ≤ b.n ∧ b.n ≤ 1) ∨ (a.k = 2 ∧ -1000000000000 ≤ a.n ∧ a.n ≤ 1000000000000 ∧ -1000000000000 ≤ b.n ∧ b.n ≤ 1000000000000) := by
              rcases base_parts a ba with ⟨k, n, t⟩ | ⟨k, n1, n2, t⟩ | ⟨k, n1, n2, t⟩ | ⟨k, n⟩ <;>
              rcases base_parts b bb with ⟨k', n', t'⟩ | ⟨k', n1', n2', t'⟩ | ⟨k', n1', n2', t'⟩ | ⟨k', n'⟩ <;> omega
            rcases h12 with ⟨k1, n1, n2, m1, m2⟩ | ⟨k1, n1, n2, m1, m2⟩
            · have e1 : baseK a = kb a.k :: u8s (numB a.n 1) := by unfold baseK; rw [if_pos k1]
              have e2 : baseK b = kb a.k :: u8s (numB b.n 1) := by unfold baseK; rw [if_pos (by omega), hk]
              rw [e1, e2]
              exact (Dv.int a.n b.n 1 n1 m1 (by omega) (by omega) hn).same _
            · have e1 : baseK a = kb a.k :: u8s (numB (a.n + 4611686018427387904) 8) := by unfold baseK; rw [if_neg (by omega), if_pos k1]
              have e2 : baseK b = kb a.k :: u8s (numB (b.n + 4611686018427387904) 8) := by unfold baseK; rw [if_neg (by omega), if_pos (by omega), hk]
              rw [e1, e2]
              have hc : cI a.n b.n = cI (a.n + 4611686018427387904) (b.n + 4611686018427387904) := by rw [cI_ne _ _ hn, cI_ne _ _ (by omega)]; split <;> split <;> omega
              rw [hc]
              exact (Dv.int _ _ 8 (by omega) (by omega) (by omega) (by omega) (by omega)).same _
    · rw [ordV_k d a b hk]
      obtain ⟨ra, ea⟩ := keyV_head d a
      obtain ⟨rb, eb⟩ := keyV_head d b
      rw [ea, eb]
      exact Dv.kind a.k b.k ka kb' hk
  termination_by d => d

end Go.Proofs.YtdchhjnmhnehiaaGreatDoor

/- What two intervals have in common is what both have; each value that a term lets in has a key in the term's interval, rising or falling. Nothing of the program is used here. -/
namespace Go.Proofs.YtdchhjnmhnehiaaGreatDoor
open Go.RowKit
set_option linter.unusedVariables false

theorem lt_or (x y : List UInt8) : Op.bytesLess x y = true ∨ x = y ∨ Op.bytesLess y x = true := by
  have h := less_total y x
  by_cases h1 : Op.bytesLess x y = true
  · exact .inl h1
  · by_cases e : x = y
    · exact .inr (.inl e)
    · refine .inr (.inr ?_)
      have e' : (x == y) = false := beq_eq_false_iff_ne.mpr e
      rw [Bool.not_eq_true] at h1
      rw [h1, e'] at h
      by_cases h2 : Op.bytesLess y x = true
      · exact h2
      · rw [Bool.not_eq_true] at h2; rw [h2] at h; cases h
theorem lt_not {x y : List UInt8} (h : Op.bytesLess x y = true) : Op.bytesLess y x = false := by
  cases h2 : Op.bytesLess y x with
  | false => rfl
  | true => have := less_trans _ _ _ h h2; rw [less_irrefl] at this; cases this
theorem hasI_eq (i : Ivl) (key : ByteArray) : hasI i key = (!(Op.bytesLess key.data.toList i.lo.data.toList) && (i.op || Op.bytesLess key.data.toList i.hi.data.toList)) := by
  unfold hasI
  rw [leB_not]
  unfold ltB
  rw [ByteArray.toList_eq, ByteArray.toList_eq, ByteArray.toList_eq]
theorem max_lt (k a b : ByteArray) : Op.bytesLess k.data.toList (Lib.maxS a b).data.toList = (Op.bytesLess k.data.toList a.data.toList || Op.bytesLess k.data.toList b.data.toList) := by
  unfold Lib.maxS
  by_cases h : a.data.toList < b.data.toList
  · rw [if_pos h]
    have hl : Op.bytesLess a.data.toList b.data.toList = true := by show Op.bytesLess _ _ = true; rw [bytesLess_eq]; exact decide_eq_true h
    cases h1 : Op.bytesLess k.data.toList a.data.toList
    · rfl
    · rw [less_trans _ _ _ h1 hl]; rfl
  · rw [if_neg h]
    have hl : Op.bytesLess a.data.toList b.data.toList = false := by show Op.bytesLess _ _ = false; rw [bytesLess_eq]; exact decide_eq_false h
    cases h1 : Op.bytesLess k.data.toList b.data.toList
    · simp
    · rcases lt_or a.data.toList b.data.toList with h2 | h2 | h2
      · rw [h2] at hl; cases hl
      · rw [h2, h1]; rfl
      · rw [less_trans _ _ _ h1 h2]; rfl
theorem min_lt (k a b : ByteArray) : Op.bytesLess k.data.toList (Lib.minS a b).data.toList = (Op.bytesLess k.data.toList a.data.toList && Op.bytesLess k.data.toList b.data.toList) := by
  unfold Lib.minS
  by_cases h : a.data.toList < b.data.toList ∨ a.data.toList = b.data.toList
  · rw [if_pos h]
    cases h1 : Op.bytesLess k.data.toList a.data.toList
    · rfl
    · rcases h with h | h
      · have hl : Op.bytesLess a.data.toList b.data.toList = true := by show Op.bytesLess _ _ = true; rw [bytesLess_eq]; exact decide_eq_true h
        rw [less_trans _ _ _ h1 hl]; rfl
      · rw [← h, h1]; rfl
  · rw [if_neg h]
    cases h1 : Op.bytesLess k.data.toList b.data.toList
    · simp
    · rcases lt_or a.data.toList b.data.toList with h2 | h2 | h2
      · exact absurd (.inl (by have h2' : Op.bytesLess a.data.toList b.data.toList = true := h2; rw [bytesLess_eq] at h2'; exact of_decide_eq_true h2')) h
      · exact absurd (.inr h2) h
      · rw [less_trans _ _ _ h1 h2]; rfl
/-- **What two intervals have in common is what both have.** -/
theorem has_meet (a b : Ivl) (k : ByteArray) : hasI (meetI a b) k = (hasI a k && hasI b k) := by
  rw [hasI_eq, hasI_eq, hasI_eq]
  unfold meetI hiM
  simp only [max_lt]
  cases ha : a.op <;> cases hb : b.op <;> simp [min_lt] <;>
    cases Op.bytesLess k.data.toList a.lo.data.toList <;> cases Op.bytesLess k.data.toList b.lo.data.toList <;> cases Op.bytesLess k.data.toList a.hi.data.toList <;> cases Op.bytesLess k.data.toList b.hi.data.toList <;> rfl

theorem Dv.part {s : Int} : ∀ {p y : List UInt8} {c : UInt8}, Dv s (p ++ [c]) y → Dv s p y ∨ ∃ b r, y = p ++ b :: r ∧ ((c < b ∧ s = -1) ∨ (b < c ∧ s = 1))
  | [], [], c, h => by cases h
  | [], b :: r, c, h => by
    rcases h with h | h | h
    · exact .inr ⟨b, r, rfl, .inl h⟩
    · exact .inr ⟨b, r, rfl, .inr h⟩
    · exact absurd h.2 (by intro h'; cases r <;> cases h')
  | a :: p, [], c, h => by cases h
  | a :: p, b :: y, c, h => by
    rcases h with h | h | h
    · exact .inl (.inl h)
    · exact .inl (.inr (.inl h))
    · rcases Dv.part h.2 with h2 | ⟨b', r, e, h2⟩
      · exact .inl (.inr (.inr ⟨h.1, h2⟩))
      · exact .inr ⟨b', r, by rw [e, h.1]; rfl, h2⟩
theorem take_next (x : List UInt8) (n : Nat) (h : n < x.length) : x.take (n + 1) = x.take n ++ [x.getD n 0] := by
  rw [List.take_add_one, List.getElem?_eq_getElem h]
  simp [List.getD, List.getElem?_eq_getElem h]
theorem lt_one (c : UInt8) (h : c < 255) : c < c + 1 := by
  rw [UInt8.lt_iff_toNat_lt] at h ⊢
  rw [UInt8.toNat_add]
  have : (255 : UInt8).toNat = 255 := rfl
  have : (1 : UInt8).toNat = 1 := rfl
  omega
/-- All that begins with the first bytes of a text stands ahead of what is behind them. -/
theorem beh_up (x : List UInt8) : ∀ (n : Nat), n ≤ x.length → ∀ r, (behN x n).2 = true → Op.bytesLess (x.take n ++ r) (behN x n).1 = true
  | 0, _, r, h => by cases h
  | n + 1, hn, r, h => by
    rw [behN] at h ⊢
    rw [take_next x n (by omega)]
    by_cases hc : x.getD n 0 < 255
    · rw [if_pos hc]
      have : Dv (-1) (x.take n ++ [x.getD n 0] ++ r) (x.take n ++ [x.getD n 0 + 1]) := by
        rw [List.append_assoc]
        exact (Dv.lt _ _ (lt_one _ hc)).pre _
      exact this.less
    · rw [if_neg hc] at h ⊢
      rw [List.append_assoc]
      exact beh_up x n (by omega) _ h
/-- What parts from a text and stands behind it stands behind all that begins with it. -/
theorem beh_low (x : List UInt8) : ∀ (n : Nat), n ≤ x.length → ∀ y, Dv (-1) (x.take n) y → (behN x n).2 = true → Op.bytesLess y (behN x n).1 = false
  | 0, _, y, hd, h => by cases h
  | n + 1, hn, y, hd, h => by
    rw [behN] at h ⊢
    rw [take_next x n (by omega)] at hd
    by_cases hc : x.getD n 0 < 255
    · rw [if_pos hc]
      rcases hd.part with h1 | ⟨b, r, e, h1⟩
      · have h2 := (h1.more [x.getD n 0 + 1] []).less
        rw [List.append_nil] at h2
        exact lt_not h2
      · rcases h1 with ⟨h1, _⟩ | ⟨_, h1⟩
        · have hb : x.getD n 0 + 1 = b ∨ x.getD n 0 + 1 < b := by
            rw [UInt8.lt_iff_toNat_lt] at hc h1 ⊢
            have e1 : (255 : UInt8).toNat = 255 := rfl
            have e2 : (x.getD n 0 + 1).toNat = (x.getD n 0).toNat + 1 := by
              rw [UInt8.toNat_add]
              have : (1 : UInt8).toNat = 1 := rfl
              omega
            by_cases h3 : (x.getD n 0).toNat + 1 = b.toNat
            · exact .inl (UInt8.toNat_inj.mp (by rw [e2]; exact h3))
            · exact .inr (by rw [e2]; omega)
          rw [e]
          rcases hb with hb | hb
          · rw [← hb]
            show Op.bytesLess _ _ = false
            have : ∀ (p : List UInt8) (c : UInt8) (r : List UInt8), Op.bytesLess (p ++ c :: r) (p ++ [c]) = false := by
              intro p c r
              induction p with
              | nil => cases r <;> simp [Op.bytesLess]
              | cons a p ih => simpa [Op.bytesLess] using ih
            exact this _ _ _
          · exact lt_not ((Dv.lt [] r hb).pre _).less
        · cases h1
    · rw [if_neg hc] at h ⊢
      rcases hd.part with h1 | ⟨b, r, e, h1⟩
      · exact beh_low x n (by omega) y h1 h
      · rcases h1 with ⟨h1, _⟩ | ⟨_, h1⟩
        · exfalso
          rw [UInt8.lt_iff_toNat_lt] at hc h1
          have e1 : (255 : UInt8).toNat = 255 := rfl
          have := b.toNat_lt
          omega
        · cases h1
theorem le_app (x r : List UInt8) : Op.bytesLess (x ++ r) x = false := by
  induction x with
  | nil => cases r <;> rfl
  | cons a p ih => show Op.bytesLess _ _ = false; simpa [Op.bytesLess] using ih
/-- A text that begins with another one is in its interval. -/
theorem begin_has (x r : List UInt8) : hasI (beginI x) (mkB (x ++ r)) = true := by
  rw [hasI_eq]
  unfold beginI
  simp only [mkB_data]
  rw [le_app]
  cases h : (behN x x.length).2
  · rfl
  · have := beh_up x x.length (Nat.le_refl _) r h
    rw [List.take_length] at this
    rw [this]; rfl
theorem kind_has (v : Val) (desc : Bool) (k : Int) (h0 : 0 ≤ k) (h5 : k ≤ 5) (hk : v.k = k) : hasI (kindI k desc) (mkB (dirK desc (keyV 5 v))) = true := by
  obtain ⟨r, hr⟩ := key_head v
  rw [hr, hk]
  obtain ⟨c, r', _, e1, e2⟩ := dir_head desc k h0 h5 r
  unfold kindI
  rw [e1, e2]
  exact begin_has [c] r'
theorem dv_dir {s : Int} {x y : List UInt8} (desc : Bool) (h : Dv s x y) : Dv (if desc then -s else s) (dirK desc x) (dirK desc y) := by
  cases desc
  · exact h
  · exact h.turn
theorem one_true (c : Val) (desc : Bool) (h : okB c = true) : (behN (dirK desc (keyV 5 c)) (dirK desc (keyV 5 c)).length).2 = true := by
  obtain ⟨b, r, s, _, _, e, _⟩ := one_begin c desc h
  unfold oneI beginI at e
  have := congrArg Ivl.op e
  simpa using this
/-- The key of a value that stands ahead of, at, or behind another one's, against all that begins with that one's key. -/
theorem one_side (v c : Val) (desc : Bool) (hv : okB v = true) (hc : okB c = true) :
    (ordV 5 v c = 0 → v = c) ∧
    ((if desc then -(ordV 5 v c) else ordV 5 v c) < 0 → Op.bytesLess (dirK desc (keyV 5 v)) (oneI c desc).lo.data.toList = true) ∧
    (0 < (if desc then -(ordV 5 v c) else ordV 5 v c) → Op.bytesLess (dirK desc (keyV 5 v)) (oneI c desc).hi.data.toList = false ∧ Op.bytesLess (dirK desc (keyV 5 v)) (oneI c desc).lo.data.toList = false) ∧
    Op.bytesLess (oneI c desc).lo.data.toList (oneI c desc).hi.data.toList = true := by
  have lo : (oneI c desc).lo.data.toList = dirK desc (keyV 5 c) := by unfold oneI beginI; rw [mkB_data]
  have hi : (oneI c desc).hi.data.toList = (behN (dirK desc (keyV 5 c)) (dirK desc (keyV 5 c)).length).1 := by unfold oneI beginI; rw [mkB_data]
  have ht := one_true c desc hc
  refine ⟨ordV_zero 5 v c hv hc, fun h => ?_, fun h => ?_, ?_⟩
  · have hne : ordV 5 v c ≠ 0 := by intro e; rw [e] at h; cases desc <;> simp at h
    rw [lo, (dv_dir desc (keyV_order 5 v c hv hc hne)).less]
    exact decide_eq_true h
  · have hne : ordV 5 v c ≠ 0 := by intro e; rw [e] at h; cases desc <;> simp at h
    have D := dv_dir desc (keyV_order 5 v c hv hc hne)
    have D2 := D.swap
    have hs : -(if desc then -(ordV 5 v c) else ordV 5 v c) = -1 := by rcases D.one with e | e <;> omega
    rw [hs] at D2
    constructor
    · rw [hi]
      exact beh_low _ _ (Nat.le_refl _) _ (by rw [List.take_length]; exact D2) ht
    · rw [lo]; exact lt_not D2.less
  · rw [lo, hi]
    have := beh_up (dirK desc (keyV 5 c)) _ (Nat.le_refl _) [] ht
    rw [List.take_length, List.append_nil] at this
    exact this
theorem ord_has (op : Int) (v c : Val) (desc : Bool) (hv : okB v = true) (hc : okB c = true) (hop : op = 3 ∨ op = 4 ∨ op = 5 ∨ op = 6) (hl : oneT op c v = true) : hasI (ordT op c desc) (mkB (dirK desc (keyV 5 v))) = true := by
  rw [oneT_ord op c v hop, Bool.and_eq_true] at hl
  obtain ⟨hk, hf⟩ := hl
  have hk := of_decide_eq_true hk
  obtain ⟨k0, k5⟩ := fits_kind v hv
  have K := kind_has v desc c.k (by omega) (by omega) hk
  rw [hasI_eq, Bool.and_eq_true] at K
  obtain ⟨Klo, Khi⟩ := K
  have Kop : (kindI c.k desc).op = false := by obtain ⟨b, _, e⟩ := kind_begin c.k desc (by omega) (by omega); rw [e]
  rw [Kop, Bool.false_or, mkB_data] at Khi
  rw [mkB_data] at Klo
  obtain ⟨S0, S1, S2, S3⟩ := one_side v c desc hv hc
  have E0 : ordV 5 v c = 0 → dirK desc (keyV 5 v) = (oneI c desc).lo.data.toList := fun e => by rw [S0 e]; unfold oneI beginI; rw [mkB_data]
  have lo_self : Op.bytesLess (oneI c desc).lo.data.toList (oneI c desc).lo.data.toList = false := less_irrefl _
  have one : ∀ lo hi : ByteArray, Op.bytesLess (dirK desc (keyV 5 v)) lo.data.toList = false → Op.bytesLess (dirK desc (keyV 5 v)) hi.data.toList = true → hasI ⟨lo, hi, false⟩ (mkB (dirK desc (keyV 5 v))) = true := by
    intro lo hi h1 h2
    rw [hasI_eq]
    simp only [mkB_data]
    rw [h1, h2]; rfl
  have Klo' : Op.bytesLess (dirK desc (keyV 5 v)) (kindI c.k desc).lo.data.toList = false := by simpa using Klo
  clear Klo
  have up4 : 0 ≤ (if desc then -(ordV 5 v c) else ordV 5 v c) → Op.bytesLess (dirK desc (keyV 5 v)) (oneI c desc).lo.data.toList = false := fun h => by
    by_cases e : ordV 5 v c = 0
    · rw [E0 e]; exact lo_self
    · exact (S2 (by cases desc <;> simp at h ⊢ <;> omega)).2
  have dn4 : (if desc then -(ordV 5 v c) else ordV 5 v c) ≤ 0 → Op.bytesLess (dirK desc (keyV 5 v)) (oneI c desc).hi.data.toList = true := fun h => by
    by_cases e : ordV 5 v c = 0
    · rw [E0 e]; exact S3
    · exact less_trans _ _ _ (S1 (by cases desc <;> simp at h ⊢ <;> omega)) S3
  unfold ordT
  cases desc <;> rcases hop with rfl | rfl | rfl | rfl <;> simp only [fitsO] at hf <;> simp at hf ⊢
  · exact one _ _ Klo' (S1 (by simpa using hf))
  · exact one _ _ Klo' (dn4 (by simpa using hf))
  · exact one _ _ (S2 (by simpa using hf)).1 Khi
  · exact one _ _ (up4 (by simpa using hf)) Khi
  · exact one _ _ (S2 (by simp; omega)).1 Khi
  · exact one _ _ (up4 (by simp; omega)) Khi
  · exact one _ _ Klo' (S1 (by simp; omega))
  · exact one _ _ Klo' (dn4 (by simp; omega))
theorem all_has (k : ByteArray) : hasI ⟨em, em, true⟩ k = true := by
  rw [hasI_eq]
  have : Op.bytesLess k.data.toList (em : ByteArray).data.toList = false := by
    show Op.bytesLess _ [] = false
    cases k.data.toList <;> rfl
  simp [this]
/-- **A value that a term lets in has its key in the term's interval.** -/
theorem term_has (op : Int) (v c : Val) (desc : Bool) (hv : okB v = true) (hc : okB c = true) (h9 : op = 9 → 0 ≤ c.n ∧ c.n ≤ 5) (hl : letsT op c [v] = true) : hasI (tintI op c desc) (mkB (dirK desc (keyV 5 v))) = true := by
  unfold tintI
  by_cases h1 : op = 1
  · rw [if_pos h1]
    subst h1
    have : v = c := by simpa [letsT, heldT, oneT] using hl
    rw [this]
    have := begin_has (dirK desc (keyV 5 c)) []
    rw [List.append_nil] at this
    exact this
  · rw [if_neg h1]
    by_cases h2 : op = 9
    · rw [if_pos h2]
      subst h2
      have : v.k = c.n := by simpa [letsT, heldT, oneT] using hl
      exact kind_has v desc c.n (h9 rfl).1 (h9 rfl).2 this
    · rw [if_neg h2]
      by_cases h3 : 3 ≤ op ∧ op ≤ 6
      · rw [if_pos h3]
        have hop : op = 3 ∨ op = 4 ∨ op = 5 ∨ op = 6 := by omega
        have : oneT op c v = true := by
          unfold letsT heldT at hl
          rw [if_neg (by omega)] at hl
          have e2 : decide (op = 2) = false := decide_eq_false (by omega)
          rw [e2] at hl
          simpa using hl
        exact ord_has op v c desc hv hc hop this
      · rw [if_neg h3]; exact all_has _

/-- What a document of one field comes to. -/
theorem one_made (v : Val) (hv : okB v = true) : ((madeP [⟨⟨#[97]⟩, v⟩]).2 = 10 ∨ (madeP [⟨⟨#[97]⟩, v⟩]).2 = 9) ∨
    ((madeP [⟨⟨#[97]⟩, v⟩]).2 = 0 ∧ docB (madeP [⟨⟨#[97]⟩, v⟩]).1 = true ∧ (v.k ≠ 4 → getP (pieces ⟨#[97]⟩) (madeP [⟨⟨#[97]⟩, v⟩]).1 = [v])) := by
  have hf : foldD [] [⟨⟨#[97]⟩, v⟩] = .ok [⟨⟨#[97]⟩, v⟩] := by
    rw [foldD, if_neg (show ¬ shortB ⟨#[97]⟩ = false by decide), if_neg (by rw [hv]; decide), if_neg (show ¬ hasN ⟨#[97]⟩ [] = true by decide)]
    rfl
  rw [madeP_few _ (by simp), hf]
  show ((fitD [⟨⟨#[97]⟩, v⟩]).2 = 10 ∨ (fitD [⟨⟨#[97]⟩, v⟩]).2 = 9) ∨ ((fitD [⟨⟨#[97]⟩, v⟩]).2 = 0 ∧ docB (fitD [⟨⟨#[97]⟩, v⟩]).1 = true ∧ (v.k ≠ 4 → getP (pieces ⟨#[97]⟩) (fitD [⟨⟨#[97]⟩, v⟩]).1 = [v]))
  by_cases h1 : 300 < (encFL [⟨⟨#[97]⟩, v⟩]).length
  · rw [fitD_size _ h1]; exact .inl (.inl rfl)
  · by_cases h2 : 4 < dF (depthV 5) [⟨⟨#[97]⟩, v⟩]
    · rw [fitD_deep _ h1 h2]; exact .inl (.inr rfl)
    · rw [fitD_ok _ h1 h2]
      have hg : GoodF [⟨⟨#[97]⟩, v⟩] := by
        refine ⟨?_, ?_⟩
        · intro i j hi hj hij; simp at hi hj; omega
        · intro f hf; simp at hf; subst hf; exact ⟨show shortB ⟨#[97]⟩ = true by decide, hv⟩
      refine .inr ⟨rfl, ?_, fun hk => ?_⟩
      · unfold docB
        show (decide ((5 : Int) = 5) && okB ⟨5, 0, txt (encFL [⟨⟨#[97]⟩, v⟩])⟩) = true
        rw [madeD_ok _ hg h1, decide_eq_true (show dF (depthV 5) [⟨⟨#[97]⟩, v⟩] ≤ 4 by omega)]; rfl
      · have hp : pieces ⟨#[97]⟩ = [⟨#[97]⟩] := by decide
        have hi : fields (txt (encFL [⟨⟨#[97]⟩, v⟩])) = some [⟨⟨#[97]⟩, v⟩] := fields_enc _ hg.names
        have hfl : flds ⟨5, 0, txt (encFL [⟨⟨#[97]⟩, v⟩])⟩ = [⟨⟨#[97]⟩, v⟩] := by unfold flds; show (fields (txt (encFL [⟨⟨#[97]⟩, v⟩]))).getD [] = _; rw [hi]; rfl
        rw [hp, getP_doc _ _ _ rfl, docP_some _ _ _ v (by rw [hfl, fieldV, if_pos ((cB_zero _ _).mpr rfl)])]
        rw [getP_end, if_neg hk]

end Go.Proofs.YtdchhjnmhnehiaaGreatDoor

/- Each document that a filter lets in has a key in the filter's interval: plain mathematics. -/
namespace Go.Proofs.YtdchhjnmhnehiaaGreatDoor
open Go.RowKit Tr Fi
set_option linter.unusedVariables false

theorem span_left (a b : Ivl) (k : ByteArray) (h : hasI a k = true) : hasI (spanI a b) k = true := by
  rw [hasI_eq] at h ⊢
  obtain ⟨lo, hi, op⟩ := a
  obtain ⟨lo', hi', op'⟩ := b
  simp only [spanI, min_lt, Bool.and_eq_true, Bool.not_eq_true', Bool.or_eq_true] at h ⊢
  refine ⟨by rw [h.1, Bool.false_and], ?_⟩
  cases op <;> cases op' <;> simp_all [max_lt]
theorem span_right (a b : Ivl) (k : ByteArray) (h : hasI b k = true) : hasI (spanI a b) k = true := by
  rw [hasI_eq] at h ⊢
  obtain ⟨lo, hi, op⟩ := a
  obtain ⟨lo', hi', op'⟩ := b
  simp only [spanI, min_lt, Bool.and_eq_true, Bool.not_eq_true', Bool.or_eq_true] at h ⊢
  refine ⟨by rw [h.1, Bool.and_false], ?_⟩
  cases op <;> cases op' <;> simp_all [max_lt]
theorem fold_left (p : Prt) (k : ByteArray) : ∀ (r : List (List Trm)) (acc : Ivl), hasI acc k = true → hasI (r.foldl (fun acc c => spanI acc (clI p c)) acc) k = true
  | [], acc, h => h
  | c :: r, acc, h => fold_left p k r _ (span_left _ _ _ h)
theorem fold_mem (p : Prt) (k : ByteArray) : ∀ (r : List (List Trm)) (acc : Ivl) (c : List Trm), c ∈ r → hasI (clI p c) k = true → hasI (r.foldl (fun acc c => spanI acc (clI p c)) acc) k = true
  | [], acc, c, hc, h => by simp at hc
  | d :: r, acc, c, hc, h => by
    rcases List.mem_cons.1 hc with rfl | hc
    · exact fold_left p k r _ (span_right _ _ _ h)
    · exact fold_mem p k r _ c hc h
theorem fi_mem (p : Prt) (k : ByteArray) (f : List (List Trm)) (c : List Trm) (hc : c ∈ f) (h : hasI (clI p c) k = true) : hasI (fiI p f) k = true := by
  cases f with
  | nil => simp at hc
  | cons d r =>
    rcases List.mem_cons.1 hc with rfl | hc
    · exact fold_left p k r _ h
    · exact fold_mem p k r _ c hc h
theorem lets_one (op : Int) (c v : Val) (h2 : op ≠ 2) (h8 : op ≠ 8) (h : oneT op c v = true) : letsT op c [v] = true := by
  unfold letsT heldT
  rw [if_neg h8, if_neg (by simp), decide_eq_false h2]
  simp [h]
theorem vals_mem (p : ByteArray) (doc v : Val) (h : v ∈ getP (pieces p) doc) : v ∈ valsP p doc := by
  unfold valsP
  rw [if_neg (fun e => by rw [e] at h; simp at h)]
  exact onceV_has _ _ _ h
theorem ok_term9 (t : Trm) (h : okT t = true) : t.op = 9 → 0 ≤ t.c.n ∧ t.c.n ≤ 5 := by
  intro h9
  unfold okT termB at h
  rw [Bool.and_eq_true, Bool.and_eq_true] at h
  have ht := h.2.2
  rw [h9] at ht
  unfold takesT at ht
  simp at ht
  omega
theorem bound_term (t : Trm) (pt : Prt) (doc : Val) (ht : okT t = true) (hd : okB doc = true) (hp : t.p = pt.path) (hl : termL t.op t.p t.c doc = true) : ∃ k ∈ keysP pt doc, hasI (tintI t.op t.c pt.desc) k = true := by
  obtain ⟨_, hc, hop, _⟩ := okT_parts t ht
  have hv := valsP_len pt.path doc hd
  have any_key : tintI t.op t.c pt.desc = ⟨em, em, true⟩ → ∃ k ∈ keysP pt doc, hasI (tintI t.op t.c pt.desc) k = true := fun e => by
    rw [e]
    have hk := (keysP_len pt doc hd).1
    exact ⟨(keysP pt doc)[0], List.getElem_mem _, all_has _⟩
  by_cases hs : t.op = 1 ∨ t.op = 9 ∨ (3 ≤ t.op ∧ t.op ≤ 6)
  · have h2 : t.op ≠ 2 := by omega
    have h8 : t.op ≠ 8 := by omega
    unfold termL letsT at hl
    rw [if_neg h8, decide_eq_false h2] at hl
    simp only [bne_iff_ne, ne_eq, Bool.not_eq_false] at hl
    obtain ⟨v, hv1, hv2⟩ := List.any_eq_true.1 hl
    have hm : v ∈ valsP pt.path doc := by
      unfold heldT at hv1
      rw [hp] at hv1
      split at hv1
      · rename_i e
        split at hv1
        · simp at hv1
        · simp at hv1
          unfold valsP
          rw [if_pos e, hv1]
          simp [nullV]
      · exact vals_mem _ _ _ hv1
    have hvo := valsP_ok pt.path doc hd v hm
    exact ⟨keyD pt.desc v, List.mem_map.2 ⟨v, hm, rfl⟩, term_has t.op v t.c pt.desc hvo hc (ok_term9 t ht) (lets_one t.op t.c v h2 h8 hv2)⟩
  · apply any_key
    unfold tintI
    rw [if_neg (by omega), if_neg (by omega), if_neg (by omega)]
theorem toL_inj {a b : ByteArray} (h : a.toList = b.toList) : a = b := by
  refine Classical.byContradiction fun hne => ?_
  have h2 := toList_ne hne
  rw [h] at h2
  simp at h2
theorem bound_clause (pt : Prt) (doc : Val) (hd : okB doc = true) : ∀ (l : List Trm), (∀ t ∈ l, okT t = true) → (∀ t ∈ l, termL t.op t.p t.c doc = true) → ∃ k ∈ keysP pt doc, hasI (clI pt l) k = true
  | [], _, _ => by
    have hk := (keysP_len pt doc hd).1
    exact ⟨(keysP pt doc)[0], List.getElem_mem _, all_has _⟩
  | t :: r, h1, h2 => by
    cases hs : sayI pt t
    · rw [clI_not pt t r hs]
      exact bound_clause pt doc hd r (fun u hu => h1 u (by simp [hu])) (fun u hu => h2 u (by simp [hu]))
    · rw [clI_say pt t r hs]
      unfold sayI at hs
      rw [Bool.and_eq_true] at hs
      have hp : t.p = pt.path := by
        have h1 : t.p.toList = pt.path.toList := by simpa using hs.1
        exact toL_inj h1
      exact bound_term t pt doc (h1 t (by simp)) hd hp (h2 t (by simp))
theorem bounds (pt : Prt) (f : List (List Trm)) (doc : Val) (hf : filtB f = true) (hd : docB doc = true) (hl : filtL doc f = true) : ∃ k ∈ keysP pt doc, hasI (fiI pt f) k = true := by
  unfold filtL at hl
  obtain ⟨l, hl1, hl2⟩ := List.any_eq_true.1 hl
  unfold filtB at hf
  rw [Bool.and_eq_true] at hf
  have hc := List.all_eq_true.1 hf.2 l hl1
  unfold clauseB at hc
  rw [Bool.and_eq_true] at hc
  unfold clauseL at hl2
  obtain ⟨k, hk1, hk2⟩ := bound_clause pt doc (docB_ok doc hd) l (fun t ht => List.all_eq_true.1 hc.2 t ht) (fun t ht => List.all_eq_true.1 hl2 t ht)
  exact ⟨k, hk1, fi_mem pt k f l hl1 hk2⟩

end Go.Proofs.YtdchhjnmhnehiaaGreatDoor

/- What the terms of one value say of each other, said plainly. Nothing of the program is used here. -/
namespace Go.Proofs.YtdchhjnmhnehiaaGreatDoor
open Go.RowKit
set_option linter.unusedVariables false

theorem any_split (l : List Val) (p q r : Val → Bool) (h : ∀ v ∈ l, p v = (q v || r v)) : l.any p = (l.any q || l.any r) := by
  induction l with
  | nil => rfl
  | cons v l ih =>
    rw [List.any_cons, List.any_cons, List.any_cons, h v (by simp), ih (fun u hu => h u (by simp [hu]))]
    cases q v <;> cases r v <;> cases l.any q <;> cases l.any r <;> rfl
theorem oneT_lte (c v : Val) (hc : okB c = true) (hv : okB v = true) : oneT 4 c v = (oneT 1 c v || oneT 3 c v) := by
  have e1 : oneT 1 c v = decide (v = c) := by simp [oneT]
  rw [oneT_ord 4 c v (by decide), oneT_ord 3 c v (by decide), e1]
  by_cases h : v = c
  · subst h
    rw [decide_eq_true rfl, decide_eq_true rfl, ordV_refl]; rfl
  · rw [decide_eq_false h, Bool.false_or]
    have hne : ordV 5 v c ≠ 0 := fun e => h (ordV_zero 5 v c hv hc e)
    congr 1
    show decide (ordV 5 v c ≤ 0) = decide (ordV 5 v c < 0)
    rw [Bool.eq_iff_iff]; simp; omega
theorem oneT_gte (c v : Val) (hc : okB c = true) (hv : okB v = true) : oneT 6 c v = (oneT 1 c v || oneT 5 c v) := by
  have e1 : oneT 1 c v = decide (v = c) := by simp [oneT]
  rw [oneT_ord 6 c v (by decide), oneT_ord 5 c v (by decide), e1]
  by_cases h : v = c
  · subst h
    rw [decide_eq_true rfl, decide_eq_true rfl, ordV_refl]; rfl
  · rw [decide_eq_false h, Bool.false_or]
    have hne : ordV 5 v c ≠ 0 := fun e => h (ordV_zero 5 v c hv hc e)
    congr 1
    show decide (0 ≤ ordV 5 v c) = decide (0 < ordV 5 v c)
    rw [Bool.eq_iff_iff]; simp; omega
theorem heldT_any (op : Int) (l : List Val) (h : op ≠ 9) : heldT op l = heldT 1 l := by unfold heldT; by_cases hl : l = [] <;> simp [hl, h]
theorem letsT_plain (op : Int) (c : Val) (l : List Val) (h8 : op ≠ 8) (h9 : op ≠ 9) (h2 : op ≠ 2) : letsT op c l = (heldT 1 l).any (oneT op c) := by
  unfold letsT; rw [if_neg h8, heldT_any op l h9, decide_eq_false h2]; simp
theorem lets_ne (c : Val) (l : List Val) : letsT 2 c l = !(letsT 1 c l) := by
  rw [letsT_plain 1 c l (by decide) (by decide) (by decide)]
  unfold letsT
  rw [if_neg (by decide), heldT_any 2 l (by decide), decide_eq_true rfl]
  have e : oneT 2 c = oneT 1 c := by funext v; simp [oneT]
  rw [e]; cases (heldT 1 l).any (oneT 1 c) <;> rfl
theorem lets_lte (c : Val) (l : List Val) (hc : okB c = true) (hl : ∀ v ∈ l, okB v = true) : letsT 4 c l = (letsT 1 c l || letsT 3 c l) := by
  rw [letsT_plain 4 c l (by decide) (by decide) (by decide), letsT_plain 1 c l (by decide) (by decide) (by decide), letsT_plain 3 c l (by decide) (by decide) (by decide)]
  exact any_split _ _ _ _ (fun v hv => oneT_lte c v hc (heldT_ok 1 l hl v hv))
theorem lets_gte (c : Val) (l : List Val) (hc : okB c = true) (hl : ∀ v ∈ l, okB v = true) : letsT 6 c l = (letsT 1 c l || letsT 5 c l) := by
  rw [letsT_plain 6 c l (by decide) (by decide) (by decide), letsT_plain 1 c l (by decide) (by decide) (by decide), letsT_plain 5 c l (by decide) (by decide) (by decide)]
  exact any_split _ _ _ _ (fun v hv => oneT_gte c v hc (heldT_ok 1 l hl v hv))
theorem lets_is (l : List Val) : letsT 8 ⟨1, 0, em⟩ l = !(letsT 8 ⟨1, 1, em⟩ l) := by
  unfold letsT
  rw [if_pos rfl, if_pos rfl]
  cases decide (0 < (l.length : Int)) <;> rfl

end Go.Proofs.YtdchhjnmhnehiaaGreatDoor

/- What the specification draws out of a code: a value, a document, a term. -/
namespace Go.Proofs.YtdchhjnmhnehiaaGreatDoor
open Go.RowKit
set_option linter.unusedVariables false

theorem Res3.grown {w W W' : World} {a b c : Value} (h : Res3 w W a b c) (hg : W.grownBy W' (some (w.heap.size + 1))) : Res3 w W' a b c :=
  have e := hg.block w.heap.size h.lt (fun e => by injection e; omega)
  ⟨Below.grown h.bel hg h.bel.size (fun j hj => by injection hj with hj; omega), Nat.lt_of_lt_of_le h.lt hg.size, (World.cell?_of_block e).trans h.c0, (World.cell?_of_block e).trans h.c1, (World.cell?_of_block e).trans h.c2, (World.frozen?_of_block e).trans h.z0, (World.frozen?_of_block e).trans h.z1, (World.frozen?_of_block e).trans h.z2⟩
set_option maxRecDepth 4000 in
set_option maxHeartbeats 1000000 in
theorem docT_any (x : Option Addr) (cap : Nat) (zs : List Int) (w : World) (h : InC w x zs) :
    Calls Tryz.prog 9 #[.slice x zs.length cap] w fun e w' => (∃ v : Val, e = .returned (.agg #[.int .i64 v.k, .int .i64 v.n, .string v.t]) ∧ docB v = true) ∧ Below w.heap.size w w' := by
  have K0 := Res3.start w (.int .i64 0) (.int .i64 0) (.string em) 38
  have HS : Hid (Calls _ _ _ _ _) := l00Source_any x cap zs (w.alloc (.cells #[.int .i64 0, .int .i64 0, .string em] 38)) (h.step K0.bel)
  clear h
  go_enter Tryz.func9, Tryz.ntmps9
  go_wp2_with fail
  refine HS.out.mono ?_
  rintro e w1 ⟨rfl, s1, b1⟩
  have K1 := K0.step b1
  simp only [heap_size_alloc] at s1
  have HSR : Hid (SrcAt _ _ _ _ _ _) := s1
  clear s1 b1 K0 HS
  go_wp2_with fail
  refine (doc_at 2 (val_at 2) (w.heap.size + 1) x cap zs 0 _ HSR.out (by decide)).mono ?_
  rintro e w2 ⟨⟨v, rfl, hv, h5⟩, d2⟩
  have K2 := K1.grown d2.1
  have HV : Hid (docB v = true) := by unfold docB; rw [decide_eq_true h5, hv]; rfl
  have a0 := K2.c0
  have a1 := K2.c1
  have a2 := K2.c2
  have z0 := K2.z0
  have z1 := K2.z1
  have z2 := K2.z2
  have hlt := K2.lt
  have B2 := K2.bel
  clear d2 K1 HSR
  go_wp2_with fail
  refine bodyPost_ret (v := .agg #[.int .i64 v.k, .int .i64 v.n, .string v.t]) (by simp [results, Tryz.results9, go_sem, *]) rfl ⟨⟨v, rfl, HV.out⟩, ?_⟩
  (repeat (first | (with_reducible exact Below.refl _ _) | (with_reducible assumption) | (with_reducible apply below_drewN) | (with_reducible apply Below.drew) | ((with_reducible refine Below.setCell ?_ ?_ _); rotate_left; focus (first | (simp; done) | (simp; omega) | omega)) | ((with_reducible refine Below.alloc ?_ ?_ _); rotate_left; focus (first | (simp; done) | (simp; omega) | omega))))

/-- Five cells of the answer. -/
structure Res5 (w W : World) : Prop where
  bel : Below w.heap.size w W
  blk : W.heap[w.heap.size]? = some (.cells #[.int .i64 0, .string em, .int .i64 0, .int .i64 0, .string em] 85)
theorem Res5.lt {w W : World} (X : Res5 w W) : w.heap.size < W.heap.size := (Array.getElem?_eq_some_iff.1 X.blk).1
theorem Res5.start (w : World) : Res5 w (w.alloc (.cells #[.int .i64 0, .string em, .int .i64 0, .int .i64 0, .string em] 85)) := ⟨(Below.refl _ _).alloc (Nat.le_refl _) _, heap_alloc_new w _⟩
theorem Res5.step {w W W' : World} (X : Res5 w W) (hb : Below W.heap.size W W') : Res5 w W' := ⟨X.bel.trans (hb.mono X.bel.size), (hb.block _ X.lt).trans X.blk⟩
theorem Res5.grown {w W W' : World} (X : Res5 w W) (hg : W.grownBy W' (some (w.heap.size + 1))) : Res5 w W' :=
  ⟨Below.grown X.bel hg X.bel.size (fun j hj => by injection hj with hj; omega), (hg.block _ X.lt (fun e => by injection e; omega)).trans X.blk⟩
theorem Res5.cells {w W : World} (X : Res5 w W) : W.cell? ⟨w.heap.size, 0, none⟩ = some (.int .i64 0) ∧ W.cell? ⟨w.heap.size, 1, none⟩ = some (.string em) ∧ W.cell? ⟨w.heap.size, 2, none⟩ = some (.int .i64 0) ∧ W.cell? ⟨w.heap.size, 3, none⟩ = some (.int .i64 0) ∧ W.cell? ⟨w.heap.size, 4, none⟩ = some (.string em) ∧ W.frozen? ⟨w.heap.size, 0, none⟩ = false ∧ W.frozen? ⟨w.heap.size, 1, none⟩ = false ∧ W.frozen? ⟨w.heap.size, 2, none⟩ = false ∧ W.frozen? ⟨w.heap.size, 3, none⟩ = false ∧ W.frozen? ⟨w.heap.size, 4, none⟩ = false := by
  have h := X.blk
  refine ⟨?_, ?_, ?_, ?_, ?_, ?_, ?_, ?_, ?_, ?_⟩ <;> simp [World.cell?, World.frozen?, h]
end Go.Proofs.YtdchhjnmhnehiaaGreatDoor
