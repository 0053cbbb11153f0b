/- The order of values, said plainly; values that are neither ahead nor behind are alike. Nothing of the program is used here. -/
import Derived.Test.YtcggkeleaepebaaGreatDoorDepthM
import Derived.Lib.Small
import Derived.Lib.Bytealg
namespace Go.Proofs.YtcggkeleaepebaaGreatDoor
open Go.RowKit
set_option linter.unusedVariables false

def cB (a b : ByteArray) : Int := Lib.compareBytes a.data.toList b.data.toList
abbrev cI (x y : Int) : Int := Lib.compareInt x y
def lexG {α : Type} (p : α → α → Int) : List α → List α → Int
  | [], [] => 0
  | [], _ :: _ => -1
  | _ :: _, [] => 1
  | x :: xs, y :: ys => if p x y = 0 then lexG p xs ys else p x y
def cF (p : Val → Val → Int) (f g : Fld) : Int := if cB f.name g.name = 0 then p f.v g.v else cB f.name g.name
def ordV : Nat → Val → Val → Int
  | 0, a, b => if a.k ≠ b.k then cI a.k b.k else if a.n ≠ b.n then cI a.n b.n else cB a.t b.t
  | d + 1, a, b => if a.k ≠ b.k then cI a.k b.k else if a.n ≠ b.n then cI a.n b.n else
    if a.k = 4 then lexG (ordV d) ((items a.t).getD []) ((items b.t).getD [])
    else if a.k = 5 then lexG (cF (ordV d)) ((fields a.t).getD []) ((fields b.t).getD [])
    else cB a.t b.t

theorem cI_zero (x y : Int) : cI x y = 0 ↔ x = y := by unfold cI Lib.compareInt; constructor <;> intro h <;> (repeat' split at *) <;> omega
theorem cI_range (x y : Int) : -1 ≤ cI x y ∧ cI x y ≤ 1 := by unfold cI Lib.compareInt; (repeat' split) <;> omega
theorem cI_ne (x y : Int) (h : x ≠ y) : cI x y = if y < x then 1 else -1 := by unfold cI Lib.compareInt; (repeat' split) <;> omega
theorem bytes_zero : ∀ a b : List UInt8, Lib.compareBytes a b = 0 ↔ a = b
  | [], [] => by simp [Lib.compareBytes]
  | [], _ :: _ => by simp [Lib.compareBytes]
  | _ :: _, [] => by simp [Lib.compareBytes]
  | a :: l, b :: m => by
    have ih := bytes_zero l m
    unfold Lib.compareBytes
    by_cases h1 : a < b
    · rw [if_pos h1]
      constructor
      · intro h; cases h
      · intro h; injection h with h _; subst h; simp at h1
    · rw [if_neg h1]
      by_cases h2 : b < a
      · rw [if_pos h2]
        constructor
        · intro h; cases h
        · intro h; injection h with h _; subst h; simp at h2
      · rw [if_neg h2, ih]
        have : a = b := by apply UInt8.toNat_inj.mp; simp [UInt8.lt_iff_toNat_lt] at *; omega
        subst this
        simp
theorem bytes_range : ∀ a b : List UInt8, -1 ≤ Lib.compareBytes a b ∧ Lib.compareBytes a b ≤ 1
  | [], [] => by simp [Lib.compareBytes]
  | [], _ :: _ => by simp [Lib.compareBytes]
  | _ :: _, [] => by simp [Lib.compareBytes]
  | a :: l, b :: m => by
    have ih := bytes_range l m
    unfold Lib.compareBytes
    (repeat' split) <;> first | omega | exact ih
theorem bytes_less : ∀ a b : List UInt8, a ≠ b → Lib.compareBytes a b = if Op.bytesLess b a = true then 1 else -1
  | [], [], h => absurd rfl h
  | [], _ :: _, _ => by simp [Lib.compareBytes, Op.bytesLess]
  | _ :: _, [], _ => by simp [Lib.compareBytes, Op.bytesLess]
  | a :: l, b :: m, h => by
    unfold Lib.compareBytes
    by_cases h1 : a < b
    · have h2 : ¬ b < a := by simp [UInt8.lt_iff_toNat_lt] at *; omega
      have h3 : ¬ b = a := by intro e; subst e; simp at h1
      rw [if_pos h1]; simp [Op.bytesLess, h2, h3]
    · rw [if_neg h1]
      by_cases h2 : b < a
      · rw [if_pos h2]; simp [Op.bytesLess, h2]
      · have e : a = b := by apply UInt8.toNat_inj.mp; simp [UInt8.lt_iff_toNat_lt] at *; omega
        subst e
        rw [if_neg h2, bytes_less l m (fun e => h (by rw [e]))]
        simp [Op.bytesLess]
theorem ba_ext {a b : ByteArray} (h : a.data.toList = b.data.toList) : a = b := by apply ByteArray.ext; apply Array.ext'; exact h
theorem cB_zero (a b : ByteArray) : cB a b = 0 ↔ a = b := by
  unfold cB; rw [bytes_zero]
  exact ⟨ba_ext, fun h => by rw [h]⟩
theorem cB_range (a b : ByteArray) : -1 ≤ cB a b ∧ cB a b ≤ 1 := bytes_range _ _
theorem cB_ne (a b : ByteArray) (h : a ≠ b) : cB a b = if ltB b a = true then 1 else -1 := by
  unfold cB ltB
  rw [ByteArray.toList_eq, ByteArray.toList_eq]
  exact bytes_less _ _ (fun e => h (ba_ext e))

theorem lexG_range {α : Type} (p : α → α → Int) (hp : ∀ x y, -1 ≤ p x y ∧ p x y ≤ 1) : ∀ xs ys, -1 ≤ lexG p xs ys ∧ lexG p xs ys ≤ 1
  | [], [] => by simp [lexG]
  | [], _ :: _ => by simp [lexG]
  | _ :: _, [] => by simp [lexG]
  | x :: xs, y :: ys => by
    have ih := lexG_range p hp xs ys
    unfold lexG
    split
    · exact ih
    · exact hp x y
theorem lexG_refl {α : Type} (p : α → α → Int) (hp : ∀ x, p x x = 0) : ∀ xs, lexG p xs xs = 0
  | [] => rfl
  | x :: xs => by unfold lexG; rw [if_pos (hp x)]; exact lexG_refl p hp xs
theorem lexG_zero {α : Type} (p : α → α → Int) : ∀ xs ys : List α, (∀ x ∈ xs, ∀ y ∈ ys, p x y = 0 → x = y) → lexG p xs ys = 0 → xs = ys
  | [], [], _, _ => rfl
  | [], _ :: _, _, h => by simp [lexG] at h
  | _ :: _, [], _, h => by simp [lexG] at h
  | x :: xs, y :: ys, hp, h => by
    unfold lexG at h
    split at h
    · rename_i e
      rw [hp x (by simp) y (by simp) e, lexG_zero p xs ys (fun a ha b hb => hp a (by simp [ha]) b (by simp [hb])) h]
    · rename_i e; exact absurd h e
theorem lexG_step {α : Type} (p : α → α → Int) (xs ys : List α) (k : Nat) (h1 : k < xs.length) (h2 : k < ys.length) : lexG p (xs.drop k) (ys.drop k) = if p xs[k] ys[k] = 0 then lexG p (xs.drop (k + 1)) (ys.drop (k + 1)) else p xs[k] ys[k] := by
  rw [List.drop_eq_getElem_cons h1, List.drop_eq_getElem_cons h2, lexG]
theorem lexG_end1 {α : Type} (p : α → α → Int) (xs ys : List α) (k : Nat) (h1 : xs.length ≤ k) : lexG p (xs.drop k) (ys.drop k) = if k < ys.length then -1 else 0 := by
  rw [List.drop_eq_nil_of_le h1]
  by_cases h : k < ys.length
  · rw [if_pos h, List.drop_eq_getElem_cons h]; rfl
  · rw [if_neg h, List.drop_eq_nil_of_le (by omega)]; rfl
theorem lexG_end2 {α : Type} (p : α → α → Int) (xs ys : List α) (k : Nat) (h1 : k < xs.length) (h2 : ys.length ≤ k) : lexG p (xs.drop k) (ys.drop k) = 1 := by
  rw [List.drop_eq_nil_of_le h2, List.drop_eq_getElem_cons h1]; rfl

theorem ordV_range : ∀ (d : Nat) (a b : Val), -1 ≤ ordV d a b ∧ ordV d a b ≤ 1
  | 0, a, b => by
    unfold ordV
    have h1 := cI_range a.k b.k
    have h2 := cI_range a.n b.n
    have h3 := cB_range a.t b.t
    (repeat' split) <;> assumption
  | d + 1, a, b => by
    have ih := ordV_range d
    have hf : ∀ x y, -1 ≤ cF (ordV d) x y ∧ cF (ordV d) x y ≤ 1 := fun x y => by
      unfold cF; split
      · exact ih _ _
      · exact cB_range _ _
    unfold ordV
    have h1 := cI_range a.k b.k
    have h2 := cI_range a.n b.n
    have h3 := cB_range a.t b.t
    have h4 := lexG_range (ordV d) ih ((items a.t).getD []) ((items b.t).getD [])
    have h5 := lexG_range (cF (ordV d)) hf ((fields a.t).getD []) ((fields b.t).getD [])
    (repeat' split) <;> assumption
theorem ordV_refl : ∀ (d : Nat) (a : Val), ordV d a a = 0
  | 0, a => by unfold ordV; simp [(cB_zero a.t a.t).mpr rfl]
  | d + 1, a => by
    have ih := ordV_refl d
    have hf : ∀ x, cF (ordV d) x x = 0 := fun x => by unfold cF; rw [if_pos ((cB_zero _ _).mpr rfl)]; exact ih _
    unfold ordV
    simp [(cB_zero a.t a.t).mpr rfl, lexG_refl _ ih, lexG_refl _ hf]

theorem beR : ∀ a b : List UInt8, a.length = b.length → beL a.reverse = beL b.reverse → a = b
  | [], [], _, _ => rfl
  | [], _ :: _, h, _ => by simp at h
  | _ :: _, [], h, _ => by simp at h
  | x :: a, y :: b, h, e => by
    rw [List.reverse_cons, List.reverse_cons, beL_snoc, beL_snoc] at e
    have h1 := x.toNat_lt
    have h2 := y.toNat_lt
    have e1 : beL a.reverse = beL b.reverse := by omega
    have e2 : x.toNat = y.toNat := by omega
    rw [UInt8.toNat_inj.mp e2, beR a b (by simpa using h) e1]
theorem be_inj (a b : List UInt8) (h : a.length = b.length) (e : beL a = beL b) : a = b := by
  have := beR a.reverse b.reverse (by simpa using h) (by simpa using e)
  simpa using this
theorem head_inj (x y : ByteArray) (n : Nat) (hx : n ≤ x.size) (hy : n ≤ y.size) (e : beT x n = beT y n) (hr : x.extract n x.size = y.extract n y.size) : x = y := by
  apply ba_ext
  have h1 : x.data.toList.take n = y.data.toList.take n := be_inj _ _ (by simp; omega) e
  have h2 : x.data.toList.drop n = y.data.toList.drop n := by
    have := congrArg (fun s : ByteArray => s.data.toList) hr
    simp only [extract_list] at this
    rwa [List.take_of_length_le (by simp), List.take_of_length_le (by simp)] at this
  rw [← List.take_append_drop n x.data.toList, h1, h2, List.take_append_drop]
theorem cutT_inj (x y : ByteArray) (n : Nat) (t r : ByteArray) (hx : cutT x n = some (t, r)) (hy : cutT y n = some (t, r)) : x = y := by
  unfold cutT at hx hy
  split at hx
  · cases hx
  · split at hx
    · cases hx
    · split at hy
      · cases hy
      · split at hy
        · cases hy
        · rename_i a1 a2 b1 b2
          simp only [Option.some.injEq, Prod.mk.injEq] at hx hy
          have s1 : beT x n = t.size := by rw [← hx.1]; simp; omega
          have s2 : beT y n = t.size := by rw [← hy.1]; simp; omega
          refine head_inj x y n (by omega) (by omega) (by omega) ?_
          have k : ∀ z : ByteArray, ¬ z.size < n + beT z n → beT z n = t.size → z.extract n (n + beT z n) = t → z.extract (n + beT z n) z.size = r → (z.extract n z.size).data.toList = t.data.toList ++ r.data.toList := by
            intro z hz hs e1 e2
            rw [← e1, ← e2]
            simp only [extract_list]
            rw [List.take_of_length_le (by simp), List.take_of_length_le (l := List.drop (n + beT z n) z.data.toList) (by simp)]
            rw [show n + beT z n - n = beT z n by omega, ← List.drop_drop, List.take_append_drop]
          exact ba_ext ((k x a2 s1 hx.1 hx.2).trans (k y b2 s2 hy.1 hy.2).symm)
theorem cutV_inj (x y : ByteArray) (v : Val) (r : ByteArray) (hx : cutV x = some (v, r)) (hy : cutV y = some (v, r)) : x = y := by
  have hk : ∀ (c : Nat) (z : ByteArray), cutR c z = some (v, r) → v.k = c := by
    intro c z h
    unfold cutR at h
    split at h
    · rename_i e; injection h with h; injection h with h _; rw [← h, e]; rfl
    · split at h
      · rename_i e; split at h
        · cases h
        · injection h with h; injection h with h _; rw [← h, e]; rfl
      · split at h
        · rename_i e; split at h
          · cases h
          · split at h
            · cases h
            · injection h with h; injection h with h _; rw [← h, e]; rfl
        · split at h
          · cases ht : cutT z 2 with
            | none => rw [ht] at h; cases h
            | some p => rw [ht] at h; injection h with h; injection h with h _; rw [← h]
          · cases h
  have hR : ∀ (c : Nat) (z z' : ByteArray), cutR c z = some (v, r) → cutR c z' = some (v, r) → z = z' := by
    intro c z z' h h'
    unfold cutR at h h'
    split at h
    · rename_i e; rw [if_pos e] at h'; injection h with h; injection h' with h'; injection h with _ h; injection h' with _ h'; rw [h, h']
    · rename_i e0; rw [if_neg e0] at h'
      split at h
      · rename_i e; rw [if_pos e] at h'
        split at h
        · cases h
        · split at h'
          · cases h'
          · injection h with h; injection h' with h'
            have q := h.trans h'.symm
            injection q with q1 q2
            injection q1 with _ q3 _
            exact head_inj z z' 1 (by omega) (by omega) (by exact_mod_cast q3) q2
      · rename_i e1; rw [if_neg e1] at h'
        split at h
        · rename_i e; rw [if_pos e] at h'
          split at h
          · cases h
          · split at h
            · cases h
            · split at h'
              · cases h'
              · split at h'
                · cases h'
                · injection h with h; injection h' with h'
                  have q := h.trans h'.symm
                  injection q with q1 q2
                  injection q1 with _ q3 _
                  exact head_inj z z' 8 (by omega) (by omega) (by omega) q2
        · rename_i e2; rw [if_neg e2] at h'
          split at h
          · rename_i e; rw [if_pos e] at h'
            cases ht : cutT z 2 with
            | none => rw [ht] at h; cases h
            | some p =>
              cases ht' : cutT z' 2 with
              | none => rw [ht'] at h'; cases h'
              | some p' =>
                rw [ht] at h; rw [ht'] at h'
                injection h with h; injection h' with h'
                have q := h.trans h'.symm
                injection q with q1 q2
                injection q1 with _ _ q3
                obtain ⟨p1, p2⟩ := p
                obtain ⟨p3, p4⟩ := p'
                simp only at q2 q3
                subst q2; subst q3
                exact cutT_inj z z' 2 _ _ ht ht'
          · cases h
  unfold cutV at hx hy
  split at hx
  · cases hx
  · split at hy
    · cases hy
    · rename_i s1 s2
      have k1 := hk _ _ hx
      have k2 := hk _ _ hy
      have hc : hd x = hd y := by omega
      rw [← hc] at hy
      have hr := hR _ _ _ hx hy
      refine head_inj x y 1 (by omega) (by omega) ?_ hr
      have b1 : ∀ z : ByteArray, ¬ z.size = 0 → beT z 1 = hd z := by
        intro z hz
        have := beT_step z 0 (by omega)
        rw [beT_zero, Nat.zero_mul] at this
        rw [show (1 : Nat) = 0 + 1 from rfl, this, head_get z (by omega)]
        omega
      rw [b1 x s1, b1 y s2, hc]
theorem items_inj : ∀ (l : List Val) (x y : ByteArray), items x = some l → items y = some l → x = y
  | [], x, y, hx, hy => by
    have h : ∀ z : ByteArray, items z = some [] → z = em := by
      intro z hz
      by_cases h0 : z.size = 0
      · exact empty_of z h0
      · cases hc : cutV z with
        | none => rw [items_none h0 hc] at hz; cases hz
        | some p =>
          obtain ⟨v, r⟩ := p
          rw [items_cons hc] at hz
          cases hr : items r with
          | none => rw [hr] at hz; cases hz
          | some q => rw [hr] at hz; cases hz
    rw [h x hx, h y hy]
  | v :: l, x, y, hx, hy => by
    have h : ∀ z : ByteArray, items z = some (v :: l) → ∃ r, cutV z = some (v, r) ∧ items r = some l := by
      intro z hz
      by_cases h0 : z.size = 0
      · rw [items_nil h0] at hz; cases hz
      · cases hc : cutV z with
        | none => rw [items_none h0 hc] at hz; cases hz
        | some p =>
          obtain ⟨v', r⟩ := p
          rw [items_cons hc] at hz
          cases hr : items r with
          | none => rw [hr] at hz; cases hz
          | some q => rw [hr] at hz; injection hz with hz; injection hz with e1 e2; subst e1; subst e2; exact ⟨r, rfl, hr⟩
    obtain ⟨r1, c1, i1⟩ := h x hx
    obtain ⟨r2, c2, i2⟩ := h y hy
    have e := items_inj l r1 r2 i1 i2
    subst e
    exact cutV_inj x y v r1 c1 c2

end Go.Proofs.YtcggkeleaepebaaGreatDoor
