/- Keys are in the order of their values, none the beginning of another; falling, in the other order. Nothing of the program is used here. -/
import Derived.Test.YtkeghknceccdmaaGreatDoorKeyMQ
import Derived.Test.YtkeghknceccdmaaGreatDoorOrdSQ
import Derived.Test.YtkeghknceccdmaaGreatDoorEncUQ
namespace Go.Proofs.YtkeghknceccdmaaGreatDoor
open Go.RowKit
set_option linter.unusedVariables false

/-- Two texts part at some byte, the first one lesser (-1) or greater (1) there. -/
def Dv (s : Int) : List UInt8 → List UInt8 → Prop
  | a :: x, b :: y => (a < b ∧ s = -1) ∨ (b < a ∧ s = 1) ∨ (a = b ∧ Dv s x y)
  | _, _ => False
theorem Dv.same {s : Int} {x y : List UInt8} (c : UInt8) (h : Dv s x y) : Dv s (c :: x) (c :: y) := .inr (.inr ⟨rfl, h⟩)
theorem Dv.lt {a b : UInt8} (x y : List UInt8) (h : a < b) : Dv (-1) (a :: x) (b :: y) := .inl ⟨h, rfl⟩
theorem Dv.gt {a b : UInt8} (x y : List UInt8) (h : b < a) : Dv 1 (a :: x) (b :: y) := .inr (.inl ⟨h, rfl⟩)
theorem Dv.pre {s : Int} {x y : List UInt8} (h : Dv s x y) : ∀ p : List UInt8, Dv s (p ++ x) (p ++ y)
  | [] => h
  | c :: p => (Dv.pre h p).same c
theorem Dv.more {s : Int} : ∀ {x y : List UInt8} (u v : List UInt8), Dv s x y → Dv s (x ++ u) (y ++ v)
  | [], _, _, _, h => by cases h
  | _ :: _, [], _, _, h => by cases h
  | a :: x, b :: y, u, v, h => by
    rcases h with h | h | ⟨h, h2⟩
    · exact .inl h
    · exact .inr (.inl h)
    · exact .inr (.inr ⟨h, h2.more u v⟩)
theorem Dv.swap {s : Int} : ∀ {x y : List UInt8}, Dv s x y → Dv (-s) y x
  | [], _, h => by cases h
  | _ :: _, [], h => by cases h
  | a :: x, b :: y, h => by
    rcases h with ⟨h, rfl⟩ | ⟨h, rfl⟩ | ⟨h, h2⟩
    · exact .inr (.inl ⟨h, rfl⟩)
    · exact .inl ⟨h, rfl⟩
    · exact .inr (.inr ⟨h.symm, h2.swap⟩)
theorem Dv.one {s : Int} : ∀ {x y : List UInt8}, Dv s x y → s = -1 ∨ s = 1
  | [], _, h => by cases h
  | _ :: _, [], h => by cases h
  | a :: x, b :: y, h => by
    rcases h with ⟨h, rfl⟩ | ⟨h, rfl⟩ | ⟨h, h2⟩
    · exact .inl rfl
    · exact .inr rfl
    · exact h2.one
theorem Dv.less {s : Int} : ∀ {x y : List UInt8}, Dv s x y → Op.bytesLess x y = decide (s < 0)
  | [], _, h => by cases h
  | _ :: _, [], h => by cases h
  | a :: x, b :: y, h => by
    rcases h with ⟨h, rfl⟩ | ⟨h, rfl⟩ | ⟨rfl, h2⟩
    · simp [Op.bytesLess, h]
    · have h1 : ¬ a < b := by simp [UInt8.lt_iff_toNat_lt] at *; omega
      have h3 : ¬ a = b := by intro e; subst e; simp at h
      simp [Op.bytesLess, h1, h3]
    · have := h2.less
      simp [Op.bytesLess, this]
theorem Dv.apart {s : Int} : ∀ {x y : List UInt8}, Dv s x y → ∀ r, y ≠ x ++ r
  | [], _, h => by cases h
  | _ :: _, [], h => by cases h
  | a :: x, b :: y, h => by
    intro r e
    rw [List.cons_append] at e
    injection e with e1 e2
    rcases h with ⟨h, rfl⟩ | ⟨h, rfl⟩ | ⟨_, h2⟩
    · subst e1; simp at h
    · subst e1; simp at h
    · exact h2.apart r e2
theorem Dv.ne {s : Int} {x y : List UInt8} (h : Dv s x y) : x ≠ y := fun e => h.apart [] (by simp [e])
theorem turn_lt (a b : UInt8) (h : a < b) : (255 - b : UInt8) < 255 - a := by
  have h1 := turn_nat a
  have h2 := turn_nat b
  rw [UInt8.lt_iff_toNat_lt] at *
  omega
theorem Dv.turn {s : Int} : ∀ {x y : List UInt8}, Dv s x y → Dv (-s) (turnL x) (turnL y)
  | [], _, h => by cases h
  | _ :: _, [], h => by cases h
  | a :: x, b :: y, h => by
    rcases h with ⟨h, rfl⟩ | ⟨h, rfl⟩ | ⟨rfl, h2⟩
    · exact .inr (.inl ⟨turn_lt _ _ h, rfl⟩)
    · exact .inl ⟨turn_lt _ _ h, rfl⟩
    · exact .inr (.inr ⟨rfl, h2.turn⟩)

theorem numB_succ (n : Int) (w : Nat) : numB n (w + 1) = nb n w :: numB n w := by
  unfold numB numK
  rw [List.range_succ_eq_map, List.map_cons, List.map_map]
  congr 1
  apply List.map_congr_left
  intro j _
  simp only [Function.comp_apply]
  congr 1
  omega
theorem Dv.num (n m : Nat) : ∀ w : Nat, n % 256 ^ w < m % 256 ^ w → Dv (-1) (u8s (numB n w)) (u8s (numB m w))
  | 0, h => by simp [Nat.mod_one] at h
  | w + 1, h => by
    rw [numB_succ, numB_succ]
    show Dv (-1) (by8 (nb n w) :: u8s (numB n w)) (by8 (nb m w) :: u8s (numB m w))
    have e1 := by8_nb n w
    have e2 := by8_nb m w
    have k : ∀ x : Nat, x % 256 ^ (w + 1) = 256 ^ w * (x / 256 ^ w % 256) + x % 256 ^ w := fun x => by
      rw [Nat.pow_succ, Nat.mod_mul]; omega
    rw [k n, k m] at h
    have p : 0 < 256 ^ w := Nat.pow_pos (by omega)
    have hn := Nat.mod_lt n p
    have hm := Nat.mod_lt m p
    rcases Nat.lt_trichotomy (n / 256 ^ w % 256) (m / 256 ^ w % 256) with hh | hh | hh
    · exact Dv.lt _ _ (by rw [UInt8.lt_iff_toNat_lt, e1, e2]; exact hh)
    · have he : by8 (nb n w) = by8 (nb m w) := UInt8.toNat_inj.mp (by rw [e1, e2, hh])
      rw [he]
      rw [hh] at h
      exact (Dv.num n m w (by omega)).same _
    · have : 256 ^ w * (m / 256 ^ w % 256 + 1) ≤ 256 ^ w * (n / 256 ^ w % 256) := Nat.mul_le_mul_left _ hh
      rw [Nat.mul_add] at this
      omega
theorem Dv.int (a b : Int) (w : Nat) (h0 : 0 ≤ a) (h1 : 0 ≤ b) (h2 : a < (256 ^ w : Nat)) (h3 : b < (256 ^ w : Nat)) (hne : a ≠ b) : Dv (cI a b) (u8s (numB a w)) (u8s (numB b w)) := by
  obtain ⟨n, rfl⟩ : ∃ n : Nat, a = n := ⟨a.toNat, by omega⟩
  obtain ⟨m, rfl⟩ : ∃ m : Nat, b = m := ⟨b.toNat, by omega⟩
  have hn : n % 256 ^ w = n := Nat.mod_eq_of_lt (by omega)
  have hm : m % 256 ^ w = m := Nat.mod_eq_of_lt (by omega)
  rw [cI_ne _ _ hne]
  by_cases h : n < m
  · rw [if_neg (by omega)]
    exact Dv.num n m w (by omega)
  · rw [if_pos (by omega)]
    exact (Dv.num m n w (by omega)).swap
theorem Dv.txt : ∀ a b : List UInt8, Lib.compareBytes a b ≠ 0 → Dv (Lib.compareBytes a b) (txtK a) (txtK b)
  | [], [], h => absurd rfl h
  | [], c :: r, _ => by
    show Dv (-1) (0 :: [0]) (escL (c :: r) ++ [0, 0])
    unfold escL
    rw [List.flatMap_cons]
    by_cases h0 : c = 0
    · rw [if_pos h0]
      exact Dv.same 0 (Dv.lt _ _ (by decide))
    · rw [if_neg h0]
      exact Dv.lt _ _ (by rw [UInt8.lt_iff_toNat_lt]; rcases Nat.eq_zero_or_pos c.toNat with h | h; exact absurd (UInt8.toNat_inj.mp h) h0; exact h)
  | c :: r, [], _ => by
    show Dv 1 (escL (c :: r) ++ [0, 0]) (0 :: [0])
    unfold escL
    rw [List.flatMap_cons]
    by_cases h0 : c = 0
    · rw [if_pos h0]
      exact Dv.same 0 (Dv.gt _ _ (by decide))
    · rw [if_neg h0]
      exact Dv.gt _ _ (by rw [UInt8.lt_iff_toNat_lt]; rcases Nat.eq_zero_or_pos c.toNat with h | h; exact absurd (UInt8.toNat_inj.mp h) h0; exact h)
  | c :: r, e :: s, h => by
    have hc : ∀ (z : UInt8) (l : List UInt8), txtK (z :: l) = (if z = 0 then [0, 255] else [z]) ++ txtK l := fun z l => by
      unfold txtK escL; rw [List.flatMap_cons, List.append_assoc]
    have pos : ∀ z : UInt8, z ≠ 0 → (0 : UInt8) < z := fun z hz => by
      rw [UInt8.lt_iff_toNat_lt]; rcases Nat.eq_zero_or_pos z.toNat with h | h
      · exact absurd (UInt8.toNat_inj.mp h) hz
      · exact h
    rw [hc, hc]
    unfold Lib.compareBytes at h ⊢
    by_cases h1 : c < e
    · rw [if_pos h1]
      have he : e ≠ 0 := by intro h; subst h; simp [UInt8.lt_iff_toNat_lt] at h1
      rw [if_neg he]
      by_cases h0 : c = 0
      · rw [if_pos h0]; exact Dv.lt _ _ (pos e he)
      · rw [if_neg h0]; exact Dv.lt _ _ h1
    · rw [if_neg h1] at h ⊢
      by_cases h2 : e < c
      · rw [if_pos h2]
        have hc0 : c ≠ 0 := by intro h; subst h; simp [UInt8.lt_iff_toNat_lt] at h2
        rw [if_neg hc0]
        by_cases h0 : e = 0
        · rw [if_pos h0]; exact Dv.gt _ _ (pos c hc0)
        · rw [if_neg h0]; exact Dv.gt _ _ h2
      · rw [if_neg h2] at h ⊢
        have : c = e := by apply UInt8.toNat_inj.mp; simp [UInt8.lt_iff_toNat_lt] at *; omega
        subst this
        exact (Dv.txt r s h).pre _

/-- The first byte of a key tells the kind. -/
theorem keyV_head (d : Nat) (v : Val) : ∃ r, keyV d v = kb v.k :: r := by
  by_cases h4 : v.k = 4
  · cases d with
    | zero => exact ⟨_, rfl⟩
    | succ d => rw [keyV_list d v h4]; exact ⟨_, by rw [h4]; rfl⟩
  · by_cases h5 : v.k = 5
    · cases d with
      | zero => exact ⟨_, rfl⟩
      | succ d => rw [keyV_doc d v h5]; exact ⟨_, by rw [h5]; rfl⟩
    · rw [keyV_base d v h4 h5]; exact ⟨_, rfl⟩
theorem fits_kindK (d : Nat) (v : Val) (h : fits d v = true) : 0 ≤ v.k ∧ v.k ≤ 5 := by
  by_cases h4 : v.k = 4
  · omega
  · by_cases h5 : v.k = 5
    · omega
    · rw [fits_base d v h4 h5] at h
      unfold base at h
      (repeat' split at h) <;> first | omega | cases h
theorem kb_nat (k : Int) (h0 : 0 ≤ k) (h1 : k ≤ 5) : ((kb k).toNat : Int) = k + 1 := by
  unfold kb
  rw [UInt8.toNat_ofNat']
  omega
theorem kb_ne0 (k : Int) (h0 : 0 ≤ k) (h1 : k ≤ 5) : kb k ≠ 0 := by
  intro h
  have := kb_nat k h0 h1
  rw [h] at this
  simp at this
  omega
theorem Dv.kind {x y : List UInt8} (a b : Int) (ha : 0 ≤ a ∧ a ≤ 5) (hb : 0 ≤ b ∧ b ≤ 5) (hne : a ≠ b) : Dv (cI a b) (kb a :: x) (kb b :: y) := by
  have h1 := kb_nat a ha.1 ha.2
  have h2 := kb_nat b hb.1 hb.2
  rw [cI_ne _ _ hne]
  split
  · exact Dv.gt _ _ (by rw [UInt8.lt_iff_toNat_lt]; omega)
  · exact Dv.lt _ _ (by rw [UInt8.lt_iff_toNat_lt]; omega)
theorem Dv.list {α : Type} (p : α → α → Int) (f : α → List UInt8) (z : α → UInt8) (hz : ∀ u, ∃ r, f u = z u :: r) : ∀ (xs ys : List α), (∀ u ∈ xs, z u ≠ 0) → (∀ u ∈ ys, z u ≠ 0) →
    (∀ x ∈ xs, ∀ y ∈ ys, (p x y = 0 → x = y) ∧ (p x y ≠ 0 → Dv (p x y) (f x) (f y))) → lexG p xs ys ≠ 0 → Dv (lexG p xs ys) (xs.flatMap f ++ [0]) (ys.flatMap f ++ [0])
  | [], [], _, _, _, h => absurd rfl h
  | [], y :: ys, _, h2, _, _ => by
    obtain ⟨r, hr⟩ := hz y
    rw [List.flatMap_cons, hr]
    exact Dv.lt _ _ (by have := h2 y (by simp); rw [UInt8.lt_iff_toNat_lt]; rcases Nat.eq_zero_or_pos (z y).toNat with h | h; exact absurd (UInt8.toNat_inj.mp h) this; exact h)
  | x :: xs, [], h1, _, _, _ => by
    obtain ⟨r, hr⟩ := hz x
    rw [List.flatMap_cons, hr]
    exact Dv.gt _ _ (by have := h1 x (by simp); rw [UInt8.lt_iff_toNat_lt]; rcases Nat.eq_zero_or_pos (z x).toNat with h | h; exact absurd (UInt8.toNat_inj.mp h) this; exact h)
  | x :: xs, y :: ys, h1, h2, hp, h => by
    rw [List.flatMap_cons, List.flatMap_cons, List.append_assoc, List.append_assoc]
    unfold lexG at h ⊢
    obtain ⟨q1, q2⟩ := hp x (by simp) y (by simp)
    by_cases e : p x y = 0
    · rw [if_pos e] at h ⊢
      rw [q1 e]
      exact (Dv.list p f z hz xs ys (fun u hu => h1 u (by simp [hu])) (fun u hu => h2 u (by simp [hu])) (fun a ha b hb => hp a (by simp [ha]) b (by simp [hb])) h).pre _
    · rw [if_neg e]
      exact (q2 e).more _ _
theorem base_parts (v : Val) (h : base v = true) : (v.k = 0 ∧ v.n = 0 ∧ v.t = em) ∨ (v.k = 1 ∧ 0 ≤ v.n ∧ v.n ≤ 1 ∧ v.t = em) ∨ (v.k = 2 ∧ -1000000000000 ≤ v.n ∧ v.n ≤ 1000000000000 ∧ v.t = em) ∨ (v.k = 3 ∧ v.n = 0) := by
  unfold base at h
  split at h
  · rename_i k; rw [decide_eq_true_eq] at h; exact .inl ⟨k, h.1, empty_of _ h.2⟩
  · split at h
    · rename_i k; rw [decide_eq_true_eq] at h; exact .inr (.inl ⟨k, h.1, h.2.1, empty_of _ h.2.2⟩)
    · split at h
      · rename_i k; rw [decide_eq_true_eq] at h; exact .inr (.inr (.inl ⟨k, h.1, h.2.1, empty_of _ h.2.2⟩))
      · split at h
        · rename_i k; rw [decide_eq_true_eq] at h; exact .inr (.inr (.inr ⟨k, h.1⟩))
        · cases h
theorem fits_n (d : Nat) (v : Val) (h : fits d v = true) (hk : 3 ≤ v.k) : v.n = 0 := by
  by_cases h4 : v.k = 4
  · obtain ⟨e, l, rfl, _, hn, _⟩ := fits_items h4 h; exact hn
  · by_cases h5 : v.k = 5
    · obtain ⟨e, l, rfl, _, hn, _⟩ := fits_fields h5 h; exact hn
    · rw [fits_base d v h4 h5] at h
      rcases base_parts v h with h | h | h | h <;> omega
/-- **Keys are in the order of their values, and where two values are unlike their keys part: none is the beginning of the other.** -/
theorem keyV_order : ∀ (d : Nat) (a b : Val), fits d a = true → fits d b = true → ordV d a b ≠ 0 → Dv (ordV d a b) (keyV d a) (keyV d b)
  | d, a, b, ha, hb, h => by
    have ka := fits_kindK d a ha
    have kb' := fits_kindK d b hb
    by_cases hk : a.k = b.k
    · by_cases h4 : a.k = 4
      · obtain ⟨_, ia, _, d1, rfl, alla⟩ := list_parts d a ha h4
        obtain ⟨_, ib, _, d2, he, allb⟩ := list_parts (d1 + 1) b hb (hk ▸ h4)
        obtain rfl : d1 = d2 := by omega
        have hn : a.n = b.n := by rw [fits_n _ a ha (by omega), fits_n _ b hb (by omega)]
        have ho := ordV_list d1 a b _ _ hk hn h4 ia ib
        rw [ho] at h ⊢
        rw [keyV_list d1 a h4, keyV_list d1 b (hk ▸ h4)]
        refine Dv.same 5 (Dv.list (ordV d1) (keyV d1) (fun u => kb u.k) (keyV_head d1) _ _ ?_ ?_ ?_ h)
        · intro u hu; have := fits_kindK d1 u (alla u hu).1; exact kb_ne0 _ this.1 this.2
        · intro u hu; have := fits_kindK d1 u (allb u hu).1; exact kb_ne0 _ this.1 this.2
        · intro x hx y hy
          exact ⟨ordV_zero d1 x y (alla x hx).1 (allb y hy).1, keyV_order d1 x y (alla x hx).1 (allb y hy).1⟩
      · by_cases h5 : a.k = 5
        · obtain ⟨_, ia, _, _, d1, rfl, alla, _⟩ := doc_parts d a ha h5
          obtain ⟨_, ib, _, _, d2, he, allb, _⟩ := doc_parts (d1 + 1) b hb (hk ▸ h5)
          obtain rfl : d1 = d2 := by omega
          have hn : a.n = b.n := by rw [fits_n _ a ha (by omega), fits_n _ b hb (by omega)]
          have ho := ordV_doc d1 a b _ _ hk hn h5 ia ib
          rw [ho] at h ⊢
          rw [keyV_doc d1 a h5, keyV_doc d1 b (hk ▸ h5)]
          refine Dv.same 6 (Dv.list (cF (ordV d1)) (fieldK (keyV d1)) (fun _ => 1) (fun u => ⟨_, rfl⟩) _ _ (fun _ _ => by decide) (fun _ _ => by decide) ?_ h)
          intro x hx y hy
          unfold cF
          by_cases hc : cB x.name y.name = 0
          · have en := (cB_zero _ _).mp hc
            rw [if_pos hc]
            refine ⟨fun e => ?_, fun e => ?_⟩
            · have ev := ordV_zero d1 x.v y.v (alla x hx).1 (allb y hy).1 e
              cases x; cases y; simp_all
            · unfold fieldK
              rw [en]
              exact ((keyV_order d1 x.v y.v (alla x hx).1 (allb y hy).1 e).pre _).same 1
          · rw [if_neg hc]
            refine ⟨fun e => absurd e hc, fun _ => ?_⟩
            unfold fieldK
            exact ((Dv.txt _ _ hc).more _ _).same 1
        · have ba := ha
          have bb := hb
          rw [fits_base d a h4 h5] at ba
          rw [fits_base d b (hk ▸ h4) (hk ▸ h5)] at bb
          rw [keyV_base d a h4 h5, keyV_base d b (hk ▸ h4) (hk ▸ h5)]
          by_cases hn : a.n = b.n
          · rw [ordV_t d a b hk hn h4 h5] at h ⊢
            have hne : a.t ≠ b.t := fun e => h ((cB_zero _ _).mpr e)
            have h3 : a.k = 3 := by
              rcases base_parts a ba with ⟨k, _, t⟩ | ⟨k, _, _, t⟩ | ⟨k, _, _, t⟩ | ⟨k, _⟩
              · rcases base_parts b bb with ⟨k', _, t'⟩ | ⟨k', _, _, t'⟩ | ⟨k', _, _, t'⟩ | ⟨k', _⟩ <;> first | omega | exact absurd (t.trans t'.symm) hne
              · rcases base_parts b bb with ⟨k', _, t'⟩ | ⟨k', _, _, t'⟩ | ⟨k', _, _, t'⟩ | ⟨k', _⟩ <;> first | omega | exact absurd (t.trans t'.symm) hne
              · rcases base_parts b bb with ⟨k', _, t'⟩ | ⟨k', _, _, t'⟩ | ⟨k', _, _, t'⟩ | ⟨k', _⟩ <;> first | omega | exact absurd (t.trans t'.symm) hne
              · exact k
            have e1 : baseK a = kb a.k :: txtK a.t.data.toList := by unfold baseK; rw [if_neg (by omega), if_neg (by omega), if_pos h3]
            have e2 : baseK b = kb a.k :: txtK b.t.data.toList := by unfold baseK; rw [if_neg (by omega), if_neg (by omega), if_pos (by omega), hk]
            rw [e1, e2]
            exact (Dv.txt _ _ h).same _
          · rw [ordV_n d a b hk hn] at h ⊢
            have h12 : (a.k = 1 ∧ 0 ≤ a.n ∧ a.n ≤ 1 ∧ 0 ≤ b.n ∧ b.n ≤ 1) ∨ (a.k = 2 ∧ -1000000000000 ≤ a.n ∧ a.n ≤ 1000000000000 ∧ -1000000000000 ≤ b.n ∧ b.n ≤ 1000000000000) := by
              rcases base_parts a ba with ⟨k, n, t⟩ | ⟨k, n1, n2, t⟩ | ⟨k, n1, n2, t⟩ | ⟨k, n⟩ <;>
              rcases base_parts b bb with ⟨k', n', t'⟩ | ⟨k', n1', n2', t'⟩ | ⟨k', n1', n2', t'⟩ | ⟨k', n'⟩ <;> omega
            rcases h12 with ⟨k1, n1, n2, m1, m2⟩ | ⟨k1, n1, n2, m1, m2⟩
            · have e1 : baseK a = kb a.k :: u8s (numB a.n 1) := by unfold baseK; rw [if_pos k1]
              have e2 : baseK b = kb a.k :: u8s (numB b.n 1) := by unfold baseK; rw [if_pos (by omega), hk]
              rw [e1, e2]
              exact (Dv.int a.n b.n 1 n1 m1 (by omega) (by omega) hn).same _
            · have e1 : baseK a = kb a.k :: u8s (numB (a.n + 4611686018427387904) 8) := by unfold baseK; rw [if_neg (by omega), if_pos k1]
              have e2 : baseK b = kb a.k :: u8s (numB (b.n + 4611686018427387904) 8) := by unfold baseK; rw [if_neg (by omega), if_pos (by omega), hk]
              rw [e1, e2]
              have hc : cI a.n b.n = cI (a.n + 4611686018427387904) (b.n + 4611686018427387904) := by rw [cI_ne _ _ hn, cI_ne _ _ (by omega)]; split <;> split <;> omega
              rw [hc]
              exact (Dv.int _ _ 8 (by omega) (by omega) (by omega) (by omega) (by omega)).same _
    · rw [ordV_k d a b hk]
      obtain ⟨ra, ea⟩ := keyV_head d a
      obtain ⟨rb, eb⟩ := keyV_head d b
      rw [ea, eb]
      exact Dv.kind a.k b.k ka kb' hk
  termination_by d => d

end Go.Proofs.YtkeghknceccdmaaGreatDoor
