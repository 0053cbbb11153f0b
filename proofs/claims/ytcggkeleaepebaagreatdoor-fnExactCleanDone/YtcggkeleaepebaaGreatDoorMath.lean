/- Plain facts on bytes, numbers in bytes, and how a text of bytes is cut into values and fields; nothing of the program is used here. -/
import Derived.WalkKit
namespace Go.Proofs.YtcggkeleaepebaaGreatDoor
open Go.RowKit

/-- The number that bytes are, the higher ones first. -/
def beL (l : List UInt8) : Nat := l.foldl (fun n c => n * 256 + c.toNat) 0
def be (s : ByteArray) : Nat := beL s.data.toList
theorem beL_snoc (l : List UInt8) (c : UInt8) : beL (l ++ [c]) = beL l * 256 + c.toNat := by
  unfold beL; rw [List.foldl_append]; rfl
theorem beL_lt (l : List UInt8) : beL l < 256 ^ l.length := by
  suffices h : ∀ r : List UInt8, beL r.reverse < 256 ^ r.length by
    have := h l.reverse; simpa using this
  intro r
  induction r with
  | nil => simp [beL]
  | cons c r ih =>
    rw [List.reverse_cons, beL_snoc, List.length_cons, Nat.pow_succ]
    have := c.toNat_lt
    omega
theorem foldl_be (r : List UInt8) : ∀ n : Nat, r.foldl (fun n c => n * 256 + c.toNat) n = n * 256 ^ r.length + beL r := by
  induction r with
  | nil => intro n; simp [beL]
  | cons c r ih =>
    intro n
    rw [List.foldl_cons, ih]
    have e : beL (c :: r) = c.toNat * 256 ^ r.length + beL r := by
      unfold beL; rw [List.foldl_cons, ih]; simp [beL]
    rw [e, List.length_cons, Nat.pow_succ, Nat.add_mul, Nat.mul_assoc, Nat.mul_comm 256, Nat.add_assoc]
theorem beL_cons (c : UInt8) (r : List UInt8) : beL (c :: r) = c.toNat * 256 ^ r.length + beL r := by
  unfold beL; rw [List.foldl_cons, foldl_be]; simp [beL]
theorem beL_small (c : UInt8) (r : List UInt8) (hc : c.toNat ≤ 127) : beL (c :: r) < 128 * 256 ^ r.length := by
  rw [beL_cons]
  have h1 := beL_lt r
  have h2 : c.toNat * 256 ^ r.length ≤ 127 * 256 ^ r.length := Nat.mul_le_mul_right _ hc
  omega

theorem toList_length (s : ByteArray) : s.data.toList.length = s.size := by simp
theorem takeS (s : ByteArray) (k : Nat) (h : k < s.size) : s.data.toList.take (k + 1) = s.data.toList.take k ++ [s[k]] := by
  rw [List.take_succ_eq_append_getElem (by simpa using h)]; rfl
theorem extract_list (s : ByteArray) (a b : Nat) : (s.extract a b).data.toList = (s.data.toList.drop a).take (b - a) := by
  rw [ByteArray.data_extract, Array.toList_extract]
theorem be_take (s : ByteArray) (k : Nat) : be (s.extract 0 k) = beL (s.data.toList.take k) := by
  unfold be; rw [extract_list]; simp
theorem beT_succ (s : ByteArray) (k : Nat) (h : k < s.size) : beL (s.data.toList.take (k + 1)) = beL (s.data.toList.take k) * 256 + s[k].toNat := by
  rw [takeS s k h, beL_snoc]
theorem beT_lt (s : ByteArray) (k : Nat) (h : k ≤ s.size) : beL (s.data.toList.take k) < 256 ^ k := by
  have := beL_lt (s.data.toList.take k)
  rwa [List.length_take, toList_length, Nat.min_eq_left h] at this
theorem beT_small (s : ByteArray) (k : Nat) (h : k ≤ s.size) (h0 : 0 < s.size) (h1 : 1 ≤ k) (hc : s[0].toNat ≤ 127) : beL (s.data.toList.take k) * 2 < 256 ^ k := by
  obtain ⟨j, rfl⟩ : ∃ j, k = j + 1 := ⟨k - 1, by omega⟩
  have e := takeS s 0 h0
  have e2 : s.data.toList = s[0] :: s.data.toList.drop 1 := by
    conv => lhs; rw [← List.take_append_drop 1 s.data.toList, e]
    simp
  rw [e2, List.take_succ_cons]
  have := beL_small s[0] (List.take j (List.drop 1 s.data.toList)) hc
  rw [List.length_take, List.length_drop, toList_length, Nat.min_eq_left (by omega)] at this
  rw [Nat.pow_succ]; omega

theorem ext_size (s : ByteArray) (a : Nat) : (s.extract a s.size).size = s.size - a := by simp
theorem ext_all (s : ByteArray) : s.extract 0 s.size = s := ByteArray.extract_zero_size

theorem or_byte (n c : Nat) (hn : n < 36028797018963968) (hc : c < 256) : bits .or .i64 ((n : Int) * 256) (wrap64 (c : Int)) = ((n * 256 + c : Nat) : Int) := by
  rw [IntWalk.wrap64_in _ ⟨by omega, by omega⟩]
  have e : ((n : Int) * 256) = ((n * 256 : Nat) : Int) := by omega
  rw [e]
  have ho : n * 256 ||| c = n * 256 + c := by
    have := Nat.shiftLeft_add_eq_or_of_lt (b := c) (i := 8) (by omega) n
    rw [Nat.shiftLeft_eq] at this
    exact this.symm
  have h1 : (BitVec.ofInt 64 ((n * 256 : Nat) : Int)).toNat = n * 256 := by
    rw [BitVec.ofInt_natCast, BitVec.toNat_ofNat]; exact Nat.mod_eq_of_lt (by omega)
  have h2 : (BitVec.ofInt 64 (c : Int)).toNat = c := by
    rw [BitVec.ofInt_natCast, BitVec.toNat_ofNat]; exact Nat.mod_eq_of_lt (by omega)
  show IntKind.i64.wrap ((BitVec.ofInt 64 ((n * 256 : Nat) : Int) ||| BitVec.ofInt 64 (c : Int)).toNat : Int) = _
  rw [BitVec.toNat_or, h1, h2, ho]
  have h3 : wrap64 ((n * 256 + c : Nat) : Int) = ((n * 256 + c : Nat) : Int) := IntWalk.wrap64_in _ ⟨by omega, by omega⟩
  have h4 : ∀ z : Int, IntKind.i64.wrap z = wrap64 z := fun z => by
    unfold wrap64; simp only [IntKind.wrap, IntKind.bits, IntKind.signed]; simp; split <;> omega
  rw [h4]; exact h3

/-- The number that the first k bytes are. -/
def beT (s : ByteArray) (k : Nat) : Nat := beL (s.data.toList.take k)
/-- The first byte (0 where there is none). -/
def hd (s : ByteArray) : Nat := (s.data.toList.headD 0).toNat
theorem beT_zero (s : ByteArray) : beT s 0 = 0 := rfl
theorem beT_step (s : ByteArray) (k : Nat) (h : k < s.size) : beT s (k + 1) = beT s k * 256 + s[k].toNat := beT_succ s k h
theorem beT_bound (s : ByteArray) (k : Nat) (h : k ≤ s.size) : beT s k < 256 ^ k := beT_lt s k h
theorem beT_half (s : ByteArray) (k : Nat) (h : k ≤ s.size) (h0 : 0 < s.size) (h1 : 1 ≤ k) (hc : s[0].toNat ≤ 127) : beT s k * 2 < 256 ^ k := beT_small s k h h0 h1 hc
/-- The empty text. -/
abbrev em : ByteArray := ⟨#[]⟩
/-- A value, its text as bytes. -/
structure Val where
  k : Int
  n : Int
  t : ByteArray
/-- A text whose length stands ahead of it in so many bytes, and what stands behind it. -/
def cutT (s : ByteArray) (wd : Nat) : Option (ByteArray × ByteArray) :=
  if s.size < wd then none
  else if s.size < wd + beT s wd then none
  else some (s.extract wd (wd + beT s wd), s.extract (wd + beT s wd) s.size)
def cutR (c : Nat) (r : ByteArray) : Option (Val × ByteArray) :=
  if c = 0 then some (⟨0, 0, em⟩, r)
  else if c = 1 then (if r.size < 1 then none else some (⟨1, beT r 1, em⟩, r.extract 1 r.size))
  else if c = 2 then (if r.size < 8 then none else if 127 < hd r then none
    else some (⟨2, (beT r 8 : Int) - 4611686018427387904, em⟩, r.extract 8 r.size))
  else if c = 3 ∨ c = 4 ∨ c = 5 then (cutT r 2).map fun p => (⟨c, 0, p.1⟩, p.2)
  else none
/-- The value at the beginning of a text, and what stands behind it. -/
def cutV (s : ByteArray) : Option (Val × ByteArray) :=
  if s.size = 0 then none else cutR (hd s) (s.extract 1 s.size)

theorem head_get (s : ByteArray) (h : 0 < s.size) : hd s = s[0].toNat := by
  unfold hd
  have e := takeS s 0 h
  have e2 : s.data.toList = s[0] :: s.data.toList.drop 1 := by
    conv => lhs; rw [← List.take_append_drop 1 s.data.toList, e]
    simp
  rw [e2]; rfl
theorem cutT_size {s a b : ByteArray} {wd : Nat} (h : cutT s wd = some (a, b)) : b.size + wd ≤ s.size ∧ a.size + wd ≤ s.size := by
  unfold cutT at h
  split at h
  · cases h
  · split at h
    · cases h
    · injection h with h; injection h with h1 h2; subst h1; subst h2
      simp; omega
theorem cutR_size {c : Nat} {r b : ByteArray} {v : Val} (h : cutR c r = some (v, b)) : b.size ≤ r.size ∧ v.t.size ≤ r.size := by
  unfold cutR at h
  split at h
  · injection h with h; injection h with h1 h2; subst h1; subst h2; exact ⟨Nat.le_refl _, Nat.zero_le _⟩
  · split at h
    · split at h
      · cases h
      · injection h with h; injection h with h1 h2; subst h1; subst h2; exact ⟨by simp, Nat.zero_le _⟩
    · split at h
      · split at h
        · cases h
        · split at h
          · cases h
          · injection h with h; injection h with h1 h2; subst h1; subst h2; exact ⟨by simp, Nat.zero_le _⟩
      · split at h
        · cases hc : cutT r 2 with
          | none => rw [hc] at h; cases h
          | some p => rw [hc] at h; injection h with h; injection h with h1 h2; subst h1; subst h2
                      have := cutT_size (a := p.1) (b := p.2) hc; exact ⟨by omega, by show p.1.size ≤ _; omega⟩
        · cases h
theorem cutV_size {s b : ByteArray} {v : Val} (h : cutV s = some (v, b)) : b.size < s.size ∧ v.t.size < s.size := by
  unfold cutV at h
  split at h
  · cases h
  · have := cutR_size h; simp at this; omega

end Go.Proofs.YtcggkeleaepebaaGreatDoor
