/- A document's keys, said plainly. Nothing of the program is used here but what values are. -/
import Derived.Test.YtdchhjnmhnehiaaGreatDoorKeyV
import Derived.Test.YtdchhjnmhnehiaaGreatDoorTermM
import Derived.Test.YtdchhjnmhnehiaaGreatDoorDefE
namespace Go.Proofs.YtdchhjnmhnehiaaGreatDoor
open Go.RowKit Tr
set_option linter.unusedVariables false

/-- Each value once, in the order in which they come first. -/
def onceV : List Val → List Val → List Val
  | acc, [] => acc
  | acc, v :: r => onceV (if v ∈ acc then acc else acc ++ [v]) r
theorem onceV_snoc : ∀ (a acc : List Val) (x : Val), onceV acc (a ++ [x]) = if x ∈ onceV acc a then onceV acc a else onceV acc a ++ [x]
  | [], acc, x => rfl
  | v :: r, acc, x => by
    show onceV _ (r ++ [x]) = _
    rw [onceV_snoc r]
    rfl
theorem onceV_take (l : List Val) (q : Nat) (h : q < l.length) : onceV [] (l.take (q + 1)) = if l[q] ∈ onceV [] (l.take q) then onceV [] (l.take q) else onceV [] (l.take q) ++ [l[q]] := by
  rw [List.take_succ_eq_append_getElem h, onceV_snoc]
theorem onceV_mem : ∀ (l acc : List Val) (x : Val), x ∈ onceV acc l → x ∈ acc ∨ x ∈ l
  | [], acc, x, h => .inl h
  | v :: r, acc, x, h => by
    rcases onceV_mem r _ x h with h | h
    · split at h
      · exact .inl h
      · rcases List.mem_append.1 h with h | h
        · exact .inl h
        · simp at h; exact .inr (by simp [h])
    · exact .inr (by simp [h])
theorem onceV_keep : ∀ (l acc : List Val) (x : Val), x ∈ acc → x ∈ onceV acc l
  | [], acc, x, h => h
  | v :: r, acc, x, h => by
    refine onceV_keep r _ x ?_
    split
    · exact h
    · exact List.mem_append.2 (.inl h)
theorem onceV_has : ∀ (l acc : List Val) (x : Val), x ∈ l → x ∈ onceV acc l
  | [], acc, x, h => by simp at h
  | v :: r, acc, x, h => by
    by_cases e : x = v
    · subst e
      refine onceV_keep r _ x ?_
      split
      · assumption
      · simp
    · exact onceV_has r _ x (by simpa [e] using h)
theorem onceV_len : ∀ (l acc : List Val), (onceV acc l).length ≤ acc.length + l.length
  | [], acc => by simp [onceV]
  | v :: r, acc => by
    have h := onceV_len r (if v ∈ acc then acc else acc ++ [v])
    have h2 : (if v ∈ acc then acc else acc ++ [v]).length ≤ acc.length + 1 := by split <;> simp
    show (onceV _ r).length ≤ _
    rw [List.length_cons]; omega
theorem onceV_nil (l : List Val) : onceV [] l = [] ↔ l = [] := by
  constructor
  · intro h
    cases l with
    | nil => rfl
    | cons v r => have := onceV_has (v :: r) [] v (by simp); rw [h] at this; simp at this
  · rintro rfl; rfl
def nullV : Val := ⟨0, 0, em⟩
/-- What a path comes to, each once; null without any. -/
def valsP (p : ByteArray) (doc : Val) : List Val := if getP (pieces p) doc = [] then [nullV] else onceV [] (getP (pieces p) doc)
/-- A value's key, rising or falling. -/
def keyD (d : Bool) (v : Val) : ByteArray := mkB (dirK d (keyV 5 v))
/-- The keys of one part. -/
def keysP (pt : Prt) (doc : Val) : List ByteArray := (valsP pt.path doc).map (keyD pt.desc)
/-- Each with each. -/
def eachW (a b : List ByteArray) : List ByteArray := a.flatMap (fun h => b.map (fun t => h ++ t))
/-- A document's keys. -/
def docK (ps : List Prt) (doc : Val) : List ByteArray := ps.foldl (fun ks p => eachW ks (keysP p doc)) [em]
theorem eachW_take (a b : List ByteArray) (k : Nat) (h : k < a.length) : eachW (a.take (k + 1)) b = eachW (a.take k) b ++ b.map (fun t => a[k] ++ t) := by
  unfold eachW
  rw [List.take_succ_eq_append_getElem h, List.flatMap_append]; simp
theorem eachW_len (a b : List ByteArray) : (eachW a b).length = a.length * b.length := by
  unfold eachW
  induction a with
  | nil => simp
  | cons x r ih => rw [List.flatMap_cons, List.length_append, ih, List.length_map, List.length_cons, Nat.add_mul]; omega
theorem docK_take (ps : List Prt) (doc : Val) (k : Nat) (h : k < ps.length) : docK (ps.take (k + 1)) doc = eachW (docK (ps.take k) doc) (keysP ps[k] doc) := by
  unfold docK
  rw [List.take_succ_eq_append_getElem h, List.foldl_append]; rfl
theorem keyD_size (d : Bool) (v : Val) (h : okB v = true) : (keyD d v).size ≤ 6622 := by
  have := key_size v h
  unfold keyD
  rw [mkB_size] at this ⊢
  unfold dirK
  cases d
  · exact this
  · simp only [if_true]; rw [turnL_len]; exact this
theorem null_ok : okB nullV = true := by decide
theorem valsP_ok (p : ByteArray) (doc : Val) (h : okB doc = true) : ∀ v ∈ valsP p doc, okB v = true := by
  intro v hv
  unfold valsP at hv
  split at hv
  · simp at hv; subst hv; exact null_ok
  · rcases onceV_mem _ _ _ hv with h1 | h1
    · simp at h1
    · exact getP_ok _ _ h v h1
theorem okB_size (v : Val) (h : okB v = true) : v.t.size ≤ 300 := by
  rcases Nat.lt_or_ge 300 v.t.size with h' | h'
  · rw [ok_big v h'] at h; cases h
  · exact h'
theorem valsP_len (p : ByteArray) (doc : Val) (h : okB doc = true) : 1 ≤ (valsP p doc).length ∧ (valsP p doc).length ≤ 301 := by
  have hs := okB_size doc h
  have hg := getP_len (pieces p) doc
  unfold valsP
  split
  · exact ⟨by simp, by simp⟩
  · rename_i hne
    have h1 := onceV_len (getP (pieces p) doc) []
    refine ⟨?_, by simp at h1; omega⟩
    rcases Nat.eq_zero_or_pos (onceV [] (getP (pieces p) doc)).length with h0 | h0
    · exact absurd ((onceV_nil _).1 (List.eq_nil_of_length_eq_zero h0)) hne
    · exact h0
theorem keysP_len (pt : Prt) (doc : Val) (h : okB doc = true) : 1 ≤ (keysP pt doc).length ∧ (keysP pt doc).length ≤ 301 := by
  unfold keysP; rw [List.length_map]; exact valsP_len _ _ h
theorem keysP_size (pt : Prt) (doc : Val) (h : okB doc = true) : ∀ s ∈ keysP pt doc, s.size ≤ 6622 := by
  intro s hs
  unfold keysP at hs
  obtain ⟨v, hv, rfl⟩ := List.mem_map.mp hs
  exact keyD_size _ _ (valsP_ok _ _ h v hv)
theorem eachW_size (a b : List ByteArray) (m n : Nat) (ha : ∀ s ∈ a, s.size ≤ m) (hb : ∀ s ∈ b, s.size ≤ n) : ∀ s ∈ eachW a b, s.size ≤ m + n := by
  intro s hs
  unfold eachW at hs
  obtain ⟨x, hx, hs⟩ := List.mem_flatMap.1 hs
  obtain ⟨y, hy, rfl⟩ := List.mem_map.1 hs
  rw [ByteArray.size_append]
  have := ha x hx
  have := hb y hy
  omega
theorem docK_bounds (doc : Val) (h : okB doc = true) : ∀ (k : Nat) (ps : List Prt), ps.length = k → k ≤ 2 → (docK ps doc).length ≤ 301 ^ k ∧ (∀ s ∈ docK ps doc, s.size ≤ 6622 * k) ∧ 1 ≤ (docK ps doc).length
  | 0, ps, hk, _ => by
    obtain rfl : ps = [] := List.eq_nil_of_length_eq_zero hk
    refine ⟨by simp [docK], fun s hs => ?_, by simp [docK]⟩
    simp [docK] at hs; subst hs; decide
  | k + 1, ps, hk, h2 => by
    have hlt : k < ps.length := by omega
    obtain ⟨h1, h3, h4⟩ := docK_bounds doc h k (ps.take k) (by rw [List.length_take]; omega) (by omega)
    have e := docK_take ps doc k hlt
    rw [List.take_of_length_le (by omega)] at e
    have hl := keysP_len ps[k] doc h
    rw [e]
    refine ⟨?_, fun s hs => ?_, ?_⟩
    · rw [eachW_len, Nat.pow_succ]; exact Nat.mul_le_mul h1 hl.2
    · have := eachW_size _ _ _ _ h3 (keysP_size ps[k] doc h) s hs
      rw [Nat.mul_add]; omega
    · rw [eachW_len]; exact Nat.mul_pos h4 hl.1

end Go.Proofs.YtdchhjnmhnehiaaGreatDoor
