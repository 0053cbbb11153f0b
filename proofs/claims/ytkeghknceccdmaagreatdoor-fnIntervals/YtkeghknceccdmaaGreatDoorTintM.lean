/- The interval of a term, said plainly. -/
import Derived.Test.YtkeghknceccdmaaGreatDoorBegM
import Derived.Test.YtkeghknceccdmaaGreatDoorIvlM
import Derived.Test.YtkeghknceccdmaaGreatDoorTermW
namespace Go.Proofs.YtkeghknceccdmaaGreatDoor
open Go.RowKit
set_option linter.unusedVariables false

/-- What begins with a kind's first byte; what begins with a value's key. -/
def kindI (k : Int) (desc : Bool) : Ivl := beginI (dirK desc [kb k])
def oneI (v : Val) (desc : Bool) : Ivl := beginI (dirK desc (keyV 5 v))
/-- The part of a kind's interval that lies on one side of a value. -/
def ordT (op : Int) (v : Val) (desc : Bool) : Ivl :=
  if (decide (op = 5 ∨ op = 6)) != desc then ⟨if op = 4 ∨ op = 6 then (oneI v desc).lo else (oneI v desc).hi, (kindI v.k desc).hi, false⟩
  else ⟨(kindI v.k desc).lo, if op = 4 ∨ op = 6 then (oneI v desc).hi else (oneI v desc).lo, false⟩
def tintI (op : Int) (v : Val) (desc : Bool) : Ivl :=
  if op = 1 then oneI v desc else if op = 9 then kindI v.n desc else if 3 ≤ op ∧ op ≤ 6 then ordT op v desc else ⟨em, em, true⟩
def tintP (op : Int) (p : ByteArray) (v : Val) (desc : Bool) : Ivl × Int := if termB op p v = true then (tintI op v desc, 0) else (⟨em, em, false⟩, 1)
theorem tintP_ok (op : Int) (p : ByteArray) (v : Val) (desc : Bool) (h : termB op p v = true) : tintP op p v desc = (tintI op v desc, 0) := by unfold tintP; rw [if_pos h]
theorem tintP_bad (op : Int) (p : ByteArray) (v : Val) (desc : Bool) (h : termB op p v = false) : tintP op p v desc = (⟨em, em, false⟩, 1) := by unfold tintP; rw [h]; rfl

theorem beh_head (c : UInt8) (r : List UInt8) (hc : c < 255) : ∀ n : Nat, (behN (c :: r) (n + 1)).2 = true ∧ ((behN (c :: r) (n + 1)).1 = [c + 1] ∨ ∃ s, (behN (c :: r) (n + 1)).1 = c :: s)
  | 0 => by
    have e : behN (c :: r) 1 = ([c + 1], true) := by rw [behN]; simp [hc]
    rw [e]; exact ⟨rfl, .inl rfl⟩
  | n + 1 => by
    rw [behN]
    split
    · exact ⟨rfl, .inr ⟨_, rfl⟩⟩
    · exact beh_head c r hc n
theorem fits_kind (v : Val) (h : okB v = true) : 0 ≤ v.k ∧ v.k ≤ 5 := by
  by_cases h4 : v.k = 4
  · omega
  · by_cases h5 : v.k = 5
    · omega
    · unfold okB at h
      rw [fits_base 5 v h4 h5] at h
      unfold base at h
      split at h
      · omega
      · split at h
        · omega
        · split at h
          · omega
          · split at h
            · omega
            · cases h
theorem kb_lit (k : Int) (h0 : 0 ≤ k) (h5 : k ≤ 5) : (kb k).toNat = (k + 1).toNat := by
  unfold kb; rw [UInt8.toNat_ofNat']; omega
theorem key_head (v : Val) : ∃ r, keyV 5 v = kb v.k :: r := by
  rw [keyV]
  split
  · rename_i h; rw [h]; exact ⟨_, rfl⟩
  · split
    · rename_i h; rw [h]; exact ⟨_, rfl⟩
    · exact ⟨_, rfl⟩
theorem dir_head (desc : Bool) (k : Int) (h0 : 0 ≤ k) (h5 : k ≤ 5) (r : List UInt8) : ∃ c r', c < 255 ∧ dirK desc [kb k] = [c] ∧ dirK desc (kb k :: r) = c :: r' := by
  have hk := kb_lit k h0 h5
  cases desc
  · exact ⟨kb k, r, by rw [UInt8.lt_iff_toNat_lt, hk]; show (k + 1).toNat < 255; omega, rfl, rfl⟩
  · refine ⟨255 - kb k, turnL r, ?_, rfl, rfl⟩
    rw [UInt8.lt_iff_toNat_lt]
    have := turn_nat (kb k)
    rw [hk] at this
    show _ < 255
    omega
theorem kind_begin (k : Int) (desc : Bool) (h0 : 0 ≤ k) (h5 : k ≤ 5) : ∃ c, c < 255 ∧ kindI k desc = ⟨mkB [c], mkB [c + 1], false⟩ := by
  obtain ⟨c, _, hc, e, _⟩ := dir_head desc k h0 h5 []
  refine ⟨c, hc, ?_⟩
  unfold kindI beginI
  rw [e]
  have e2 : behN [c] 1 = ([c + 1], true) := by rw [behN]; simp [hc]
  show (⟨mkB [c], mkB (behN [c] 1).1, !(behN [c] 1).2⟩ : Ivl) = _
  rw [e2]; rfl
/-- A right value's key and its kind's first byte: what a term's interval needs of them. -/
theorem one_begin (v : Val) (desc : Bool) (h : okB v = true) : ∃ c r s, c < 255 ∧ kindI v.k desc = ⟨mkB [c], mkB [c + 1], false⟩ ∧ oneI v desc = ⟨mkB (c :: r), mkB s, false⟩ ∧ (s = [c + 1] ∨ ∃ s', s = c :: s') := by
  obtain ⟨h0, h5⟩ := fits_kind v h
  obtain ⟨r0, hr⟩ := key_head v
  obtain ⟨c, r, hc, e1, e2⟩ := dir_head desc v.k h0 h5 r0
  have e3 : behN [c] 1 = ([c + 1], true) := by rw [behN]; simp [hc]
  have hh := beh_head c r hc r.length
  refine ⟨c, r, (behN (c :: r) (r.length + 1)).1, hc, ?_, ?_, hh.2⟩
  · unfold kindI beginI
    rw [e1]
    show (⟨mkB [c], mkB (behN [c] 1).1, !(behN [c] 1).2⟩ : Ivl) = _
    rw [e3]; rfl
  · unfold oneI beginI
    rw [hr, e2]
    show (⟨mkB (c :: r), mkB (behN (c :: r) (r.length + 1)).1, !(behN (c :: r) (r.length + 1)).2⟩ : Ivl) = _
    rw [hh.1]; rfl
theorem max_em (x : List UInt8) : Lib.maxS (mkB x) em = mkB x := by
  unfold Lib.maxS
  rw [if_neg]
  show ¬ ((mkB x).data.toList < [])
  exact List.not_lt_nil _
theorem up_not (c : UInt8) (hc : c < 255) (s : List UInt8) (hs : s = [c + 1] ∨ ∃ s', s = c :: s') : Lib.minS (mkB [c + 1]) (mkB s) = mkB s := by
  unfold Lib.minS
  rw [mkB_data, mkB_data]
  split
  · rename_i h
    rcases hs with rfl | ⟨s', rfl⟩
    · rfl
    · exfalso
      have hn : (((c + 1 : UInt8).toNat : Nat) : Int) = (c.toNat : Int) + 1 := succ_byte c hc
      rcases h with h | h
      · rw [List.cons_lt_cons_iff] at h
        rcases h with h | ⟨h, _⟩
        · rw [UInt8.lt_iff_toNat_lt] at h; omega
        · rw [h] at hn; omega
      · injection h with h _
        rw [h] at hn; omega
  · rfl
theorem num_kb (k : Int) (h0 : 0 ≤ k) (h5 : k ≤ 5) : txt (numB (k + 1) 1) = mkB [kb k] := by
  have hh : k = 0 ∨ k = 1 ∨ k = 2 ∨ k = 3 ∨ k = 4 ∨ k = 5 := by omega
  rcases hh with rfl | rfl | rfl | rfl | rfl | rfl <;> rfl
theorem own_one (w : World) (z : UInt8) (base : Nat) (hb : base ≤ w.heap.size) : (w.alloc (.cells #[.int .u8 (z.toNat : Nat)] 5)).ownsRow base 5 1 (.slice (some ⟨w.heap.size, 0, none⟩) 1 1) 1 (Lib.byteCells [z]) :=
  ⟨rfl, .inr ⟨w.heap.size, 1, #[.int .u8 (z.toNat : Nat)], rfl, hb, heap_alloc_new w _, Nat.le_refl _, by unfold maxLen; omega, rfl, rfl⟩⟩

end Go.Proofs.YtkeghknceccdmaaGreatDoor
