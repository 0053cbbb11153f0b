/- A document's keys, said plainly. Nothing of the program is used here but what values are. -/
import Derived.Test.YtdchhjnmhnehiaaGreatDoorKeySQ
import Derived.Test.YtdchhjnmhnehiaaGreatDoorEncUQ
import Derived.Test.YtdchhjnmhnehiaaGreatDoorTrMQ
import Derived.Test.YtdchhjnmhnehiaaGreatDoorTrialAQ
import Derived.Test.YtdchhjnmhnehiaaGreatDoorGetSQ
import Derived.Test.YtdchhjnmhnehiaaGreatDoorChgBQ
import Derived.Deep.RegionHeld3
namespace Go.Proofs.YtdchhjnmhnehiaaGreatDoor
open Go.RowKit Tr
set_option linter.unusedVariables false

/-- Each value once, in the order in which they come first. -/
def onceV : List Val → List Val → List Val
  | acc, [] => acc
  | acc, v :: r => onceV (if v ∈ acc then acc else acc ++ [v]) r
theorem onceV_snoc : ∀ (a acc : List Val) (x : Val), onceV acc (a ++ [x]) = if x ∈ onceV acc a then onceV acc a else onceV acc a ++ [x]
  | [], acc, x => rfl
  | v :: r, acc, x => by
    show onceV _ (r ++ [x]) = _
    rw [onceV_snoc r]
    rfl
theorem onceV_take (l : List Val) (q : Nat) (h : q < l.length) : onceV [] (l.take (q + 1)) = if l[q] ∈ onceV [] (l.take q) then onceV [] (l.take q) else onceV [] (l.take q) ++ [l[q]] := by
  rw [List.take_succ_eq_append_getElem h, onceV_snoc]
theorem onceV_mem : ∀ (l acc : List Val) (x : Val), x ∈ onceV acc l → x ∈ acc ∨ x ∈ l
  | [], acc, x, h => .inl h
  | v :: r, acc, x, h => by
    rcases onceV_mem r _ x h with h | h
    · split at h
      · exact .inl h
      · rcases List.mem_append.1 h with h | h
        · exact .inl h
        · simp at h; exact .inr (by simp [h])
    · exact .inr (by simp [h])
theorem onceV_keep : ∀ (l acc : List Val) (x : Val), x ∈ acc → x ∈ onceV acc l
  | [], acc, x, h => h
  | v :: r, acc, x, h => by
    refine onceV_keep r _ x ?_
    split
    · exact h
    · exact List.mem_append.2 (.inl h)
theorem onceV_has : ∀ (l acc : List Val) (x : Val), x ∈ l → x ∈ onceV acc l
  | [], acc, x, h => by simp at h
  | v :: r, acc, x, h => by
    by_cases e : x = v
    · subst e
      refine onceV_keep r _ x ?_
      split
      · assumption
      · simp
    · exact onceV_has r _ x (by simpa [e] using h)
theorem onceV_len : ∀ (l acc : List Val), (onceV acc l).length ≤ acc.length + l.length
  | [], acc => by simp [onceV]
  | v :: r, acc => by
    have h := onceV_len r (if v ∈ acc then acc else acc ++ [v])
    have h2 : (if v ∈ acc then acc else acc ++ [v]).length ≤ acc.length + 1 := by split <;> simp
    show (onceV _ r).length ≤ _
    rw [List.length_cons]; omega
theorem onceV_nil (l : List Val) : onceV [] l = [] ↔ l = [] := by
  constructor
  · intro h
    cases l with
    | nil => rfl
    | cons v r => have := onceV_has (v :: r) [] v (by simp); rw [h] at this; simp at this
  · rintro rfl; rfl
def nullV : Val := ⟨0, 0, em⟩
/-- What a path comes to, each once; null without any. -/
def valsP (p : ByteArray) (doc : Val) : List Val := if getP (pieces p) doc = [] then [nullV] else onceV [] (getP (pieces p) doc)
/-- A value's key, rising or falling. -/
def keyD (d : Bool) (v : Val) : ByteArray := mkB (dirK d (keyV 5 v))
/-- The keys of one part. -/
def keysP (pt : Prt) (doc : Val) : List ByteArray := (valsP pt.path doc).map (keyD pt.desc)
/-- Each with each. -/
def eachW (a b : List ByteArray) : List ByteArray := a.flatMap (fun h => b.map (fun t => h ++ t))
/-- A document's keys. -/
def docK (ps : List Prt) (doc : Val) : List ByteArray := ps.foldl (fun ks p => eachW ks (keysP p doc)) [em]
theorem eachW_take (a b : List ByteArray) (k : Nat) (h : k < a.length) : eachW (a.take (k + 1)) b = eachW (a.take k) b ++ b.map (fun t => a[k] ++ t) := by
  unfold eachW
  rw [List.take_succ_eq_append_getElem h, List.flatMap_append]; simp
theorem eachW_len (a b : List ByteArray) : (eachW a b).length = a.length * b.length := by
  unfold eachW
  induction a with
  | nil => simp
  | cons x r ih => rw [List.flatMap_cons, List.length_append, ih, List.length_map, List.length_cons, Nat.add_mul]; omega
theorem docK_take (ps : List Prt) (doc : Val) (k : Nat) (h : k < ps.length) : docK (ps.take (k + 1)) doc = eachW (docK (ps.take k) doc) (keysP ps[k] doc) := by
  unfold docK
  rw [List.take_succ_eq_append_getElem h, List.foldl_append]; rfl
theorem keyD_size (d : Bool) (v : Val) (h : okB v = true) : (keyD d v).size ≤ 6622 := by
  have := key_size v h
  unfold keyD
  rw [mkB_size] at this ⊢
  unfold dirK
  cases d
  · exact this
  · simp only [if_true]; rw [turnL_len]; exact this
theorem null_ok : okB nullV = true := by decide
theorem valsP_ok (p : ByteArray) (doc : Val) (h : okB doc = true) : ∀ v ∈ valsP p doc, okB v = true := by
  intro v hv
  unfold valsP at hv
  split at hv
  · simp at hv; subst hv; exact null_ok
  · rcases onceV_mem _ _ _ hv with h1 | h1
    · simp at h1
    · exact getP_ok _ _ h v h1
theorem okB_size (v : Val) (h : okB v = true) : v.t.size ≤ 300 := by
  rcases Nat.lt_or_ge 300 v.t.size with h' | h'
  · rw [ok_big v h'] at h; cases h
  · exact h'
theorem valsP_len (p : ByteArray) (doc : Val) (h : okB doc = true) : 1 ≤ (valsP p doc).length ∧ (valsP p doc).length ≤ 301 := by
  have hs := okB_size doc h
  have hg := getP_len (pieces p) doc
  unfold valsP
  split
  · exact ⟨by simp, by simp⟩
  · rename_i hne
    have h1 := onceV_len (getP (pieces p) doc) []
    refine ⟨?_, by simp at h1; omega⟩
    rcases Nat.eq_zero_or_pos (onceV [] (getP (pieces p) doc)).length with h0 | h0
    · exact absurd ((onceV_nil _).1 (List.eq_nil_of_length_eq_zero h0)) hne
    · exact h0
theorem keysP_len (pt : Prt) (doc : Val) (h : okB doc = true) : 1 ≤ (keysP pt doc).length ∧ (keysP pt doc).length ≤ 301 := by
  unfold keysP; rw [List.length_map]; exact valsP_len _ _ h
theorem keysP_size (pt : Prt) (doc : Val) (h : okB doc = true) : ∀ s ∈ keysP pt doc, s.size ≤ 6622 := by
  intro s hs
  unfold keysP at hs
  obtain ⟨v, hv, rfl⟩ := List.mem_map.mp hs
  exact keyD_size _ _ (valsP_ok _ _ h v hv)
theorem eachW_size (a b : List ByteArray) (m n : Nat) (ha : ∀ s ∈ a, s.size ≤ m) (hb : ∀ s ∈ b, s.size ≤ n) : ∀ s ∈ eachW a b, s.size ≤ m + n := by
  intro s hs
  unfold eachW at hs
  obtain ⟨x, hx, hs⟩ := List.mem_flatMap.1 hs
  obtain ⟨y, hy, rfl⟩ := List.mem_map.1 hs
  rw [ByteArray.size_append]
  have := ha x hx
  have := hb y hy
  omega
theorem docK_bounds (doc : Val) (h : okB doc = true) : ∀ (k : Nat) (ps : List Prt), ps.length = k → k ≤ 2 → (docK ps doc).length ≤ 301 ^ k ∧ (∀ s ∈ docK ps doc, s.size ≤ 6622 * k) ∧ 1 ≤ (docK ps doc).length
  | 0, ps, hk, _ => by
    obtain rfl : ps = [] := List.eq_nil_of_length_eq_zero hk
    refine ⟨by simp [docK], fun s hs => ?_, by simp [docK]⟩
    simp [docK] at hs; subst hs; decide
  | k + 1, ps, hk, h2 => by
    have hlt : k < ps.length := by omega
    obtain ⟨h1, h3, h4⟩ := docK_bounds doc h k (ps.take k) (by rw [List.length_take]; omega) (by omega)
    have e := docK_take ps doc k hlt
    rw [List.take_of_length_le (by omega)] at e
    have hl := keysP_len ps[k] doc h
    rw [e]
    refine ⟨?_, fun s hs => ?_, ?_⟩
    · rw [eachW_len, Nat.pow_succ]; exact Nat.mul_le_mul h1 hl.2
    · have := eachW_size _ _ _ _ h3 (keysP_size ps[k] doc h) s hs
      rw [Nat.mul_add]; omega
    · rw [eachW_len]; exact Nat.mul_pos h4 hl.1

end Go.Proofs.YtdchhjnmhnehiaaGreatDoor

/- The program's keys of a document: each value once, the keys of a part, each with each (whole). -/
namespace Go.Proofs.YtdchhjnmhnehiaaGreatDoor
open Go.RowKit Tr
set_option linter.unusedVariables false

theorem rowV_own {w : World} {base : Nat} {v : Value} {L : List Val} (h : w.ownsRow base 38 3 v L.length (flat L)) : ∃ p cap, v = .slice p L.length cap ∧ RowV w p L := by
  rcases h.2 with ⟨e, h0⟩ | ⟨g, cap, cur, e, _⟩
  · exact ⟨none, 0, by rw [e, h0], .inl (List.eq_nil_of_length_eq_zero h0)⟩
  · exact ⟨some ⟨g, 0, none⟩, cap, e, .inr ⟨g, rfl, ReadV.of_own (by rw [← e]; exact h)⟩⟩
theorem any_mem (l : List Val) (v : Val) : l.any (fun u => decide (u = v)) = decide (v ∈ l) := by
  rw [Bool.eq_iff_iff]; simp
/-- The one value of an answer's own, ready to be put behind others. -/
theorem val_new (w : World) (v : Val) : ∀ (j : Nat) (u : Value), (row v)[j]? = some u → (w.alloc (.cells #[.int .i64 v.k, .int .i64 v.n, .string v.t] 38)).cell? ((⟨w.heap.size, 0, none⟩ : Addr).add j) = some u := by
  intro j u hj
  match j, hj with
  | 0, hj => simp [row] at hj; subst hj; simp [Addr.add, go_sem]
  | 1, hj => simp [row] at hj; subst hj; simp [Addr.add, go_sem]
  | 2, hj => simp [row] at hj; subst hj; simp [Addr.add, go_sem]
  | j + 3, hj => simp [row] at hj
theorem val_one (v : Val) : ∀ u ∈ row v, u.oneCell' = true := by intro u hu; simp [row] at hu; rcases hu with rfl | rfl | rfl <;> rfl

set_option maxRecDepth 4000 in
set_option maxHeartbeats 2000000 in
theorem eachOnce_any (p : Option Addr) (cap : Nat) (l : List Val) (w : World) (hr : RowV w p l) (hl : l.length ≤ 1000) :
    Calls Tryz.prog 95 #[.slice p l.length cap] w fun e w' => (∃ p' cap', e = .returned (.slice p' (onceV [] l).length cap') ∧ RowV w' p' (onceV [] l)) ∧ Below w.heap.size w w' := by
  obtain ⟨i0, hi0, hz0, hz1, hz2⟩ := info_parts infoV
  have HR : Hid (RowV _ _ _) := hr
  clear hr
  go_enter Tryz.func95, Tryz.ntmps95
  go_wp2_with fail
  go_loopw [3, 8] (fun u i wr => ∃ q : Nat, q ≤ l.length ∧ i = .int .i64 q ∧ wr.ownsRow w.heap.size 38 3 u (onceV [] (l.take q)).length (flat (onceV [] (l.take q))) ∧ Below w.heap.size w wr) (fun _ i _ => l.length - (intOf i).toNat)
  case atStart => exact ⟨0, Nat.zero_le _, rfl, by rw [List.take_zero]; exact World.ownsRow_nil _ _ _ _, Below.refl _ _⟩
  case round =>
    obtain ⟨q, hq, rfl, hown, hbel⟩ := hrel
    have hz := hbel.size
    have hol := onceV_len (l.take q) []
    rw [List.length_take, List.length_nil] at hol
    by_cases hlt : q < l.length
    · rcases HR.out.next hbel with h0 | ⟨g, rfl, R⟩
      · subst h0; simp at hlt
      obtain ⟨x0, x1, x2⟩ := R.cells q hlt
      have hgl := R.lt
      have hnx := onceV_take l q hlt
      obtain ⟨v, hv⟩ : ∃ v, v = l[q] := ⟨_, rfl⟩
      obtain ⟨L, hL⟩ : ∃ L, L = onceV [] (l.take q) := ⟨_, rfl⟩
      rw [← hv] at x0 x1 x2
      rw [← hv, ← hL] at hnx
      rw [← hL] at hown hol
      obtain ⟨pu, cu, rfl, RU⟩ := rowV_own hown
      have hal : Below wr.heap.size wr (wr.alloc (.cells #[.int .i64 v.k, .int .i64 v.n, .string v.t] 38)) := (Below.refl _ _).alloc (Nat.le_refl _) _
      have HC : Hid (Calls _ _ _ _ _) := containsVal_any pu cu L v (wr.alloc (.cells #[.int .i64 v.k, .int .i64 v.n, .string v.t] 38)) (RU.next hal) (by omega)
      rw [any_mem] at HC
      have X := Boxed.start wr (.int .i64 v.k) (.int .i64 v.n) (.string v.t) 38
      have HO : Hid (World.ownsRow _ _ _ _ _ _ _) := owns_below hown hal
      have HNX : Hid (_ = _) := hnx
      have hq2 : (q : Int) < (l.length : Int) := by omega
      clear R hv hL hown RU hnx
      obtain ⟨K, hK⟩ : ∃ K, K = decide (v ∈ L) := ⟨_, rfl⟩
      rw [← hK] at HC
      have HK : Hid (_ = _) := hK
      clear hK
      go_wp2_with fail
      generalize wr.alloc (.cells #[.int .i64 v.k, .int .i64 v.n, .string v.t] 38) = W1 at X HC HO hal ⊢
      refine HC.out.mono ?_
      rintro e w1 ⟨rfl, hb⟩
      have X1 := X.step hb
      have O1 := owns_below HO.out hb
      have a0 := X1.c0
      have a1 := X1.c1
      have a2 := X1.c2
      have hl1 := X1.lt
      have hb1 := hbel.trans (X1.bel.mono hz)
      clear hb HC HO X x0 x1 x2 hal
      cases K
      · have hnx : onceV [] (l.take (q + 1)) = L ++ [v] := by rw [HNX.out, if_neg (by have := HK.out.symm; simpa using this)]
        have HN2 : Hid (_ = _) := hnx
        have hz1' := hb1.size
        clear hnx
        go_wp2_with (at_builtin; refine wpList_append_own _ rfl (.tmp 16) (.tmp 18) 107 rfl w.heap.size 38 i0 (.agg #[.int .i64 0, .int .i64 0, .string em]) 3 32 Tryz.underlying107 hi0 hz0 hz1 hz2 rfl (by decide) _ _ _ rfl (O1.alloc _) ⟨w1.heap.size, 0, none⟩ 1 1 (row v) rfl rfl (val_new _ _) (val_one _) (by unfold maxLen; omega) (by omega) (by simp; omega) ?_)
        intro v' w6 hown6 hgrow hnv
        have B6 : Below w.heap.size w w6 := Below.grown (hb1.alloc (by omega) _) hgrow (by simp; omega) (fun j hj => by have := (O1.lt j hj).1; omega)
        have HO6 : Hid (World.ownsRow _ _ _ _ _ _ _) := hown6
        clear hown6 hgrow hnv O1 a0 a1 a2
        go_wp2_with fail
        go_roundw
        case rel => exact ⟨q + 1, by omega, by go_num, by rw [HN2.out, flat_snoc, List.length_append]; exact HO6.out, B6⟩
        case measure => simp [intOf]; omega
      · have hnx : onceV [] (l.take (q + 1)) = L := by rw [HNX.out, if_pos (by have := HK.out.symm; simpa using this)]
        have HN2 : Hid (_ = _) := hnx
        have HO1 : Hid (World.ownsRow _ _ _ _ _ _ _) := O1
        clear hnx O1 a0 a1 a2
        go_wp2_with fail
        go_roundw
        case rel => exact ⟨q + 1, by omega, by go_num, by rw [HN2.out]; exact HO1.out, hb1⟩
        case measure => simp [intOf]; omega
    · have hq2 : ¬ (q : Int) < (l.length : Int) := by omega
      rw [List.take_of_length_le (by omega)] at hown
      obtain ⟨pu, cu, rfl, RU⟩ := rowV_own hown
      have HRU : Hid (RowV _ _ _) := RU
      clear RU hown
      go_wp2_with fail
      go_ret
      exact ⟨⟨pu, ⟨cu, rfl⟩, HRU.out⟩, hbel⟩

theorem keepPD {W w0 : World} {b : Nat} {a0 a1 c0 c1 c2 : Value} (m : b < W.heap.size) (m2 : b + 1 < W.heap.size) (x0 : W.cell? ⟨b, 0, none⟩ = some a0) (x1 : W.cell? ⟨b, 1, none⟩ = some a1) (y0 : W.cell? ⟨b + 1, 0, none⟩ = some c0) (y1 : W.cell? ⟨b + 1, 1, none⟩ = some c1) (y2 : W.cell? ⟨b + 1, 2, none⟩ = some c2) (hb : Below W.heap.size W w0) :
    w0.cell? ⟨b, 0, none⟩ = some a0 ∧ w0.cell? ⟨b, 1, none⟩ = some a1 ∧ w0.cell? ⟨b + 1, 0, none⟩ = some c0 ∧ w0.cell? ⟨b + 1, 1, none⟩ = some c1 ∧ w0.cell? ⟨b + 1, 2, none⟩ = some c2 :=
  ⟨(hb.cell m).trans x0, (hb.cell m).trans x1, (hb.cell m2).trans y0, (hb.cell m2).trans y1, (hb.cell m2).trans y2⟩
theorem ownS_one (w : World) (s : ByteArray) {base : Nat} (hb : base ≤ w.heap.size) : OwnS (w.alloc (.cells #[.string s] 9)) base (.slice (some ⟨w.heap.size, 0, none⟩) 1 1) [s] :=
  ⟨rfl, .inr ⟨w.heap.size, 1, _, rfl, hb, heap_alloc_new w _, Nat.le_refl _, by unfold maxLen; omega, rfl, rfl⟩⟩
theorem ownS_strs {w : World} {base : Nat} {v : Value} {l : List ByteArray} (h : OwnS w base v l) : w.ownsRow base 9 1 v l.length (strV l) := h
theorem pieces_le (p : ByteArray) (h : pathB p = true) : p.size ≤ 50 := by
  rcases Nat.lt_or_ge 50 p.size with h' | h'
  · rw [pathB_long p h'] at h; cases h
  · exact h'

set_option maxRecDepth 8000 in
set_option maxHeartbeats 4000000 in
theorem partKeys_any (pt : Prt) (doc : Val) (w : World) (hp : pt.path.size ≤ 50) (hd : okB doc = true) :
    Calls Tryz.prog 68 #[.agg #[.string pt.path, .bool pt.desc], .agg #[.int .i64 doc.k, .int .i64 doc.n, .string doc.t]] w fun e w' => (∃ v, e = .returned v ∧ OwnS w' w.heap.size v (keysP pt doc)) ∧ Below w.heap.size w w' := by
  obtain ⟨i0, hi0, hz0, hz1, hz2⟩ := info_parts infoStr
  have hds := okB_size doc hd
  have hgl := getP_len (pieces pt.path) doc
  have hpl := pieces_len_le pt.path
  have HOK : Hid (∀ v ∈ getP (pieces pt.path) doc, okB v = true) := getP_ok _ _ hd
  have HD : Hid (okB doc = true) := hd
  have HNIL : Hid (getP (pieces pt.path) doc = [] → keysP pt doc = [keyD pt.desc nullV]) := fun e => by unfold keysP valsP; rw [if_pos e]; rfl
  have HSOM : Hid (¬ getP (pieces pt.path) doc = [] → keysP pt doc = (onceV [] (getP (pieces pt.path) doc)).map (keyD pt.desc)) := fun e => by unfold keysP valsP; rw [if_neg e]
  have hb0 : Below w.heap.size w ((w.alloc (.cells #[.string pt.path, .bool pt.desc] 28)).alloc (.cells #[.int .i64 doc.k, .int .i64 doc.n, .string doc.t] 38)) := ((Below.refl _ _).alloc (Nat.le_refl _) _).alloc (by simp) _
  have p0 : ((w.alloc (.cells #[.string pt.path, .bool pt.desc] 28)).alloc (.cells #[.int .i64 doc.k, .int .i64 doc.n, .string doc.t] 38)).cell? ⟨w.heap.size, 0, none⟩ = some (.string pt.path) := by simp [go_sem]
  have p1 : ((w.alloc (.cells #[.string pt.path, .bool pt.desc] 28)).alloc (.cells #[.int .i64 doc.k, .int .i64 doc.n, .string doc.t] 38)).cell? ⟨w.heap.size, 1, none⟩ = some (.bool pt.desc) := by simp [go_sem]
  have d0 : ((w.alloc (.cells #[.string pt.path, .bool pt.desc] 28)).alloc (.cells #[.int .i64 doc.k, .int .i64 doc.n, .string doc.t] 38)).cell? ⟨w.heap.size + 1, 0, none⟩ = some (.int .i64 doc.k) := by simp [go_sem]
  have d1 : ((w.alloc (.cells #[.string pt.path, .bool pt.desc] 28)).alloc (.cells #[.int .i64 doc.k, .int .i64 doc.n, .string doc.t] 38)).cell? ⟨w.heap.size + 1, 1, none⟩ = some (.int .i64 doc.n) := by simp [go_sem]
  have d2 : ((w.alloc (.cells #[.string pt.path, .bool pt.desc] 28)).alloc (.cells #[.int .i64 doc.k, .int .i64 doc.n, .string doc.t] 38)).cell? ⟨w.heap.size + 1, 2, none⟩ = some (.string doc.t) := by simp [go_sem]
  have hs0 : ((w.alloc (.cells #[.string pt.path, .bool pt.desc] 28)).alloc (.cells #[.int .i64 doc.k, .int .i64 doc.n, .string doc.t] 38)).heap.size = w.heap.size + 2 := by simp
  clear hd
  go_enter Tryz.func68, Tryz.ntmps68
  go_wp2_with fail
  generalize (w.alloc (.cells #[.string pt.path, .bool pt.desc] 28)).alloc (.cells #[.int .i64 doc.k, .int .i64 doc.n, .string doc.t] 38) = W0 at hb0 p0 p1 d0 d1 d2 hs0 ⊢
  have m0 : w.heap.size < W0.heap.size := by omega
  have m1 : w.heap.size + 1 < W0.heap.size := by omega
  clear hs0
  obtain ⟨G, hG⟩ : ∃ G, G = getP (pieces pt.path) doc := ⟨_, rfl⟩
  have HCO : Hid (∀ (g off cap : Nat) (W : World), (pieces pt.path).length ≤ cap → ReadS W g off (pieces pt.path) → Calls Tryz.prog 96 #[.agg #[.int .i64 doc.k, .int .i64 doc.n, .string doc.t], .slice (some ⟨g, off, none⟩) (pieces pt.path).length cap] W fun e w' => RowO G w' e ∧ Below W.heap.size W w') := fun g off cap W h1 h2 => by rw [hG]; exact come_at (pieces pt.path) (by omega) 5 doc g off cap W HD.out hds h1 h2
  rw [← hG] at hgl HOK HNIL HSOM
  clear hG
  go_region_held3 (fun w0 => w0.cell? ⟨w.heap.size, 0, none⟩ = some (.string pt.path) ∧ w0.cell? ⟨w.heap.size, 1, none⟩ = some (.bool pt.desc) ∧ w0.cell? ⟨w.heap.size + 1, 0, none⟩ = some (.int .i64 doc.k) ∧ w0.cell? ⟨w.heap.size + 1, 1, none⟩ = some (.int .i64 doc.n) ∧ w0.cell? ⟨w.heap.size + 1, 2, none⟩ = some (.string doc.t)) ((refine keepPD m0 m1 p0 p1 d0 d1 d2 ?_; (repeat (first | (with_reducible exact Below.refl _ _) | (with_reducible assumption) | (with_reducible apply below_drewN) | (with_reducible apply Below.drew) | ((with_reducible refine Below.setCell ?_ ?_ _); rotate_left; focus (first | (simp; done) | (simp; omega) | omega)) | ((with_reducible refine Below.alloc ?_ ?_ _); rotate_left; focus (first | (simp; done) | (simp; omega) | omega)))))) (first
    | (go_at_call 80; refine (namesOfC_any pt.path _ (by omega)).mono ?_; rintro e w1 ⟨⟨gn, cn, rfl, hcn, RN⟩, hb⟩; have hB1 : Below W0.heap.size W0 w1 := (show Below W0.heap.size W0 _ by (repeat (first | (with_reducible exact Below.refl _ _) | (with_reducible assumption) | (with_reducible apply below_drewN) | (with_reducible apply Below.drew) | ((with_reducible refine Below.setCell ?_ ?_ _); rotate_left; focus (first | (simp; done) | (simp; omega) | omega)) | ((with_reducible refine Below.alloc ?_ ?_ _); rotate_left; focus (first | (simp; done) | (simp; omega) | omega))))).trans (hb.mono (by first | (simp; done) | (simp; omega) | omega)); have hs1 := hB1.size; have HRN : Hid (ReadS _ _ _ _) := RN; clear hb RN)
    | (go_at_call 96; refine (HCO.out gn 0 cn _ hcn (HRN.out.next (by (repeat (first | (with_reducible exact Below.refl _ _) | (with_reducible assumption) | (with_reducible apply below_drewN) | (with_reducible apply Below.drew) | ((with_reducible refine Below.setCell ?_ ?_ _); rotate_left; focus (first | (simp; done) | (simp; omega) | omega)) | ((with_reducible refine Below.alloc ?_ ?_ _); rotate_left; focus (first | (simp; done) | (simp; omega) | omega))))))).mono ?_; rintro e w2 ⟨hro, hb⟩; obtain ⟨pc, cc, rfl, RC⟩ := hro.row; have hB2 : Below W0.heap.size W0 w2 := (show Below W0.heap.size W0 _ by (repeat (first | (with_reducible exact Below.refl _ _) | (with_reducible assumption) | (with_reducible apply below_drewN) | (with_reducible apply Below.drew) | ((with_reducible refine Below.setCell ?_ ?_ _); rotate_left; focus (first | (simp; done) | (simp; omega) | omega)) | ((with_reducible refine Below.alloc ?_ ?_ _); rotate_left; focus (first | (simp; done) | (simp; omega) | omega))))).trans (hb.mono (by first | (simp; done) | (simp; omega) | omega)); have hs2 := hB2.size; have HRC : Hid (RowV _ _ _) := RC; clear hb RC hro)
    | (go_at_call 95; refine (eachOnce_any pc cc G _ (HRC.out.next (by (repeat (first | (with_reducible exact Below.refl _ _) | (with_reducible assumption) | (with_reducible apply below_drewN) | (with_reducible apply Below.drew) | ((with_reducible refine Below.setCell ?_ ?_ _); rotate_left; focus (first | (simp; done) | (simp; omega) | omega)) | ((with_reducible refine Below.alloc ?_ ?_ _); rotate_left; focus (first | (simp; done) | (simp; omega) | omega)))))) (by omega)).mono ?_; rintro e w3 ⟨⟨po, co, rfl, RO⟩, hb⟩; have hB3 : Below W0.heap.size W0 w3 := (show Below W0.heap.size W0 _ by (repeat (first | (with_reducible exact Below.refl _ _) | (with_reducible assumption) | (with_reducible apply below_drewN) | (with_reducible apply Below.drew) | ((with_reducible refine Below.setCell ?_ ?_ _); rotate_left; focus (first | (simp; done) | (simp; omega) | omega)) | ((with_reducible refine Below.alloc ?_ ?_ _); rotate_left; focus (first | (simp; done) | (simp; omega) | omega))))).trans (hb.mono (by first | (simp; done) | (simp; omega) | omega)); have HRO : Hid (RowV _ _ _) := RO; clear hb RO))
  obtain ⟨L, hL⟩ : ∃ L, L = onceV [] G := ⟨_, rfl⟩
  have hll : L.length ≤ 301 := by rw [hL]; have := onceV_len G []; simp at this; omega
  have HLO : Hid (∀ v ∈ L, okB v = true) := fun v hv => by
    rw [hL] at hv
    rcases onceV_mem _ _ _ hv with h | h
    · simp at h
    · exact HOK.out v h
  have HLN : Hid (L = [] → keysP pt doc = [keyD pt.desc nullV]) := fun e => HNIL.out ((onceV_nil G).1 (by rw [← hL]; exact e))
  have HLS : Hid (¬ L = [] → keysP pt doc = L.map (keyD pt.desc)) := fun e => by rw [hL]; exact HSOM.out (fun h => e (by rw [hL]; exact (onceV_nil G).2 h))
  rw [← hL] at HRO ⊢
  have q0 := (hB3.cell m0).trans p0
  have q1 := (hB3.cell m0).trans p1
  have hbw := hb0.trans (hB3.mono hb0.size)
  have hl3 : w.heap.size < w3.heap.size := Nat.lt_of_lt_of_le m0 hB3.size
  clear hL hB1 hB2 hB3 HRN HRC HCO HNIL HSOM HOK p0 p1 d0 d1 d2 m0 m1 hb0 q0
  go_wp2_with fail
  go_loopw [5, 15] (fun u i wr => ∃ q : Nat, q ≤ L.length ∧ i = .int .i64 q ∧ OwnS wr w3.heap.size u ((L.map (keyD pt.desc)).take q) ∧ Below w3.heap.size w3 wr) (fun _ i _ => L.length - (intOf i).toNat)
  case atStart => exact ⟨0, Nat.zero_le _, rfl, by rw [List.take_zero]; exact World.ownsRow_nil _ _ _ _, Below.refl _ _⟩
  case round =>
    obtain ⟨q, hq, rfl, hown, hbel⟩ := hrel
    have hz := hbel.size
    have r1 := (hbel.cell (p := ⟨w.heap.size, 1, none⟩) hl3).trans q1
    have hlr : w.heap.size < wr.heap.size := by omega
    have htl : ((L.map (keyD pt.desc)).take q).length = q := by rw [List.length_take, List.length_map]; omega
    have hown' : wr.ownsRow w3.heap.size 9 1 u5 q (strV ((L.map (keyD pt.desc)).take q)) := by have h := ownS_strs hown; rw [htl] at h; exact h
    by_cases hlt : q < L.length
    · rcases HRO.out.next hbel with h0 | ⟨g, rfl, R⟩
      · subst h0; simp at hlt
      obtain ⟨x0, x1, x2⟩ := R.cells q hlt
      have hgr := R.lt
      obtain ⟨v, hv⟩ : ∃ v, v = L[q] := ⟨_, rfl⟩
      have hvo : okB v = true := by rw [hv]; exact HLO.out _ (List.getElem_mem _)
      have HTK : Hid ((L.map (keyD pt.desc)).take (q + 1) = (L.map (keyD pt.desc)).take q ++ [keyD pt.desc v]) := by
        show (L.map (keyD pt.desc)).take (q + 1) = (L.map (keyD pt.desc)).take q ++ [keyD pt.desc v]
        rw [List.take_succ_eq_append_getElem (by simpa using hlt)]
        simp only [List.getElem_map, hv]
      rw [← hv] at x0 x1 x2
      have hal : Below wr.heap.size wr (wr.alloc (.cells #[.int .i64 v.k, .int .i64 v.n, .string v.t] 38)) := (Below.refl _ _).alloc (Nat.le_refl _) _
      have r1' := (hal.cell (p := ⟨w.heap.size, 1, none⟩) hlr).trans r1
      have HK : Hid (∀ W : World, Calls Tryz.prog 97 #[.agg #[.int .i64 v.k, .int .i64 v.n, .string v.t], .bool pt.desc] W fun e w' => e = .returned (.string (keyD pt.desc v)) ∧ Below W.heap.size W w') := fun W => keyOf_any v pt.desc W hvo
      have hkz := keyD_size pt.desc v hvo
      have X := Boxed.start wr (.int .i64 v.k) (.int .i64 v.n) (.string v.t) 38
      have a0 := X.c0
      have a1 := X.c1
      have a2 := X.c2
      have HO : Hid (World.ownsRow _ _ _ _ _ _ _) := owns_below hown' hal
      have hq2 : (q : Int) < (L.length : Int) := by omega
      have HBX : Hid (Below w3.heap.size w3 _) := hbel.trans (X.bel.mono hz)
      clear R hv hown hown' hvo X
      go_wp2_with fail
      generalize wr.alloc (.cells #[.int .i64 v.k, .int .i64 v.n, .string v.t] 38) = W1 at HO HBX r1' a0 a1 a2 hal ⊢
      refine (HK.out _).mono ?_
      rintro e w4 ⟨rfl, hb⟩
      have O4 := owns_below HO.out hb
      have B4 := HBX.out.trans (hb.mono HBX.out.size)
      have hz4 := B4.size
      clear hb HO HK x0 x1 x2 a0 a1 a2 r1' hal
      go_wp2_with (at_builtin; refine wpList_append_own_at _ rfl (.tmp 19) (.tmp 24) 42 rfl w3.heap.size 9 i0 (.string ByteArray.empty) 1 16 Tryz.underlying42 hi0 hz0 hz1 hz2 rfl (by decide) _ _ _ rfl (O4.alloc _) ⟨w4.heap.size, 0, none⟩ 1 1 [.string (keyD pt.desc v)] rfl rfl (cell_one_new _ _ _) (by intro u hu; simp at hu; subst hu; rfl) (by unfold maxLen; omega) (by omega) (by simp; omega) ?_)
      intro v' w6 hown6 hgrow hnv hat
      have B6 : Below w3.heap.size w3 w6 := Below.grown (B4.alloc (by omega) _) hgrow (by simp; omega) (fun j hj => by have := (O4.lt j hj).1; omega)
      have HO6 : Hid (OwnS w6 w3.heap.size v' ((L.map (keyD pt.desc)).take (q + 1))) := by
        show w6.ownsRow _ _ _ _ _ _
        rw [HTK.out, strV_app, List.length_append, htl]; exact hown6
      clear hown6 hgrow hnv hat O4
      go_wp2_with fail
      go_roundw
      case rel => exact ⟨q + 1, by omega, by go_num, HO6.out, B6⟩
      case measure => simp [intOf]; omega
    · have hq2 : ¬ (q : Int) < (L.length : Int) := by omega
      obtain rfl : q = L.length := by omega
      have hown2 : OwnS wr w3.heap.size u5 (L.map (keyD pt.desc)) := by have h := hown; rw [List.take_of_length_le (by simp)] at h; exact h
      obtain ⟨pu, cu, rfl, IU⟩ := OwnS.in1 hown2
      have hbw2 : Below w.heap.size w wr := hbw.trans (hbel.mono (by omega))
      rw [List.length_map] at *
      have HOU : Hid (OwnS _ _ _ _) := hown2
      clear hown hown' hown2 IU htl
      by_cases hn : L = []
      · have hn0 : (L.length : Int) = 0 := by rw [hn]; rfl
        have HE : Hid (_ = _) := HLN.out hn
        have HK : Hid (∀ W : World, Calls Tryz.prog 97 #[.agg #[.int .i64 0, .int .i64 0, .string ByteArray.empty], .bool pt.desc] W fun e w' => e = .returned (.string (keyD pt.desc nullV)) ∧ Below W.heap.size W w') := fun W => keyOf_any nullV pt.desc W null_ok
        clear HLN HLS HOU hn
        rw [hn0]
        go_wp2_with fail
        refine (HK.out _).mono ?_
        rintro e w4 ⟨rfl, hb⟩
        have B4 := hbw2.trans (hb.mono hbw2.size)
        clear hb
        go_wp2_with fail
        go_ret
        refine ⟨⟨_, rfl, ?_⟩, B4.alloc B4.size _⟩
        rw [HE.out]
        exact ownS_one w4 (keyD pt.desc nullV) B4.size
      · have hn0 : ¬ (L.length : Int) = 0 := by intro e; apply hn; exact List.eq_nil_of_length_eq_zero (by omega)
        have HE : Hid (_ = _) := HLS.out hn
        clear HLN HLS hn
        go_wp2_with fail
        go_ret
        refine ⟨⟨_, rfl, ?_⟩, hbw2⟩
        rw [HE.out]
        exact owns_mono HOU.out (by omega)

set_option maxRecDepth 8000 in
set_option maxHeartbeats 4000000 in
theorem eachWith_any (p1 p2 : Option Addr) (c1 c2 : Nat) (a b : List ByteArray) (w : World) (h1 : InT1 w p1 a) (h2 : InT1 w p2 b) (ha : a.length ≤ 1000) (hb : b.length ≤ 1000) (hsa : ∀ s ∈ a, s.size ≤ 100000) (hsb : ∀ s ∈ b, s.size ≤ 100000) :
    Calls Tryz.prog 67 #[.slice p1 a.length c1, .slice p2 b.length c2] w fun e w' => (∃ v, e = .returned v ∧ OwnS w' w.heap.size v (eachW a b)) ∧ Below w.heap.size w w' := by
  obtain ⟨i0, hi0, hz0, hz1, hz2⟩ := info_parts infoStr
  have HA : Hid (InT1 _ _ _) := h1
  have HB : Hid (InT1 _ _ _) := h2
  have HSA : Hid (∀ s ∈ a, s.size ≤ 100000) := hsa
  have HSB : Hid (∀ s ∈ b, s.size ≤ 100000) := hsb
  clear h1 h2 hsa hsb
  go_enter Tryz.func67, Tryz.ntmps67
  go_wp2_with fail
  go_loopw [5, 12] (fun u i wr => ∃ q : Nat, q ≤ a.length ∧ i = .int .i64 q ∧ OwnS wr w.heap.size u (eachW (a.take q) b) ∧ Below w.heap.size w wr) (fun _ i _ => a.length - (intOf i).toNat)
  case atStart => exact ⟨0, Nat.zero_le _, rfl, by rw [List.take_zero]; exact World.ownsRow_nil _ _ _ _, Below.refl _ _⟩
  case round =>
    obtain ⟨q, hq, rfl, hown, hbel⟩ := hrel
    have hz := hbel.size
    by_cases hlt : q < a.length
    · have hq2 : (q : Int) < (a.length : Int) := by omega
      obtain ⟨ga, rfl, hga, x0⟩ : ∃ ga, p1 = some ⟨ga, 0, none⟩ ∧ ga < w.heap.size ∧ w.cell? ⟨ga, q, none⟩ = some (.string a[q]) := by
        rcases HA.out with h | ⟨g, e, hl, hc⟩
        · omega
        · exact ⟨g, e, hl, hc q hlt⟩
      have x1 := (hbel.cell (p := ⟨ga, q, none⟩) hga).trans x0
      have hga2 : ga < wr.heap.size := by omega
      have HTK : Hid (eachW (a.take (q + 1)) b = eachW (a.take q) b ++ b.map (fun t => a[q] ++ t)) := eachW_take a b q hlt
      have hsq := HSA.out a[q] (List.getElem_mem _)
      have hel : (eachW (a.take q) b).length ≤ 1000 * 1000 := by
        rw [eachW_len]; exact Nat.mul_le_mul (by rw [List.length_take]; omega) hb
      obtain ⟨s, hs⟩ : ∃ s, s = a[q] := ⟨_, rfl⟩
      rw [← hs] at x1 HTK hsq
      obtain ⟨M, hM⟩ : ∃ M, M = eachW (a.take q) b := ⟨_, rfl⟩
      rw [← hM] at hown HTK hel
      have HO : Hid (OwnS _ _ _ _) := hown
      have HBL : Hid (Below _ _ _) := hbel
      clear hs hM hown hbel x0
      obtain ⟨Wq, rfl⟩ : ∃ W, W = wr := ⟨_, rfl⟩
      go_wp2_with fail
      go_loopw [5, 18] (fun u j wr => ∃ m : Nat, m ≤ b.length ∧ j = .int .i64 m ∧ OwnS wr w.heap.size u (M ++ (b.map (fun t => s ++ t)).take m) ∧ Below w.heap.size w wr) (fun _ j _ => b.length - (intOf j).toNat)
      case atStart => exact ⟨0, Nat.zero_le _, rfl, by rw [List.take_zero, List.append_nil]; exact HO.out, HBL.out⟩
      case round =>
        obtain ⟨m, hm, rfl, hown, hbel⟩ := hrel
        have hzr := hbel.size
        have htl : (M ++ (b.map (fun t => s ++ t)).take m).length = M.length + m := by rw [List.length_append, List.length_take, List.length_map]; omega
        by_cases hlm : m < b.length
        · have hm2 : (m : Int) < (b.length : Int) := by omega
          obtain ⟨gb, rfl, hgb, y0⟩ : ∃ gb, p2 = some ⟨gb, 0, none⟩ ∧ gb < w.heap.size ∧ w.cell? ⟨gb, m, none⟩ = some (.string b[m]) := by
            rcases HB.out with h | ⟨g, e, hl, hc⟩
            · omega
            · exact ⟨g, e, hl, hc m hlm⟩
          have y1 := (hbel.cell (p := ⟨gb, m, none⟩) hgb).trans y0
          have hgb2 : gb < wr.heap.size := by omega
          have htq := HSB.out b[m] (List.getElem_mem _)
          have HTM : Hid ((b.map (fun t => s ++ t)).take (m + 1) = (b.map (fun t => s ++ t)).take m ++ [s ++ b[m]]) := by
            show (b.map (fun t => s ++ t)).take (m + 1) = (b.map (fun t => s ++ t)).take m ++ [s ++ b[m]]
            rw [List.take_succ_eq_append_getElem (by simpa using hlm)]
            simp only [List.getElem_map]
          obtain ⟨t, ht⟩ : ∃ t, t = b[m] := ⟨_, rfl⟩
          rw [← ht] at y1 HTM htq
          have hcon : ¬ 9223372036854775807 < s.size + t.size := by omega
          have O3 : wr.ownsRow w.heap.size 9 1 u5 (M.length + m) (strV (M ++ (b.map (fun t => s ++ t)).take m)) := by have h := ownS_strs hown; rw [htl] at h; exact h
          clear ht y0 hown
          go_wp2_with (at_builtin; refine wpList_append_own_at _ rfl (.tmp 22) (.tmp 26) 42 rfl w.heap.size 9 i0 (.string ByteArray.empty) 1 16 Tryz.underlying42 hi0 hz0 hz1 hz2 rfl (by decide) _ _ _ rfl (O3.alloc _) ⟨wr.heap.size, 0, none⟩ 1 1 [.string (s ++ t)] rfl rfl (cell_one_new _ _ _) (by intro u hu; simp at hu; subst hu; rfl) (by unfold maxLen; omega) (by omega) (by simp; omega) ?_)
          intro v' w6 hown6 hgrow hnv hat
          have B6 : Below w.heap.size w w6 := Below.grown (hbel.alloc (by omega) _) hgrow (by simp; omega) (fun j hj => by have := (O3.lt j hj).1; omega)
          have HO6 : Hid (OwnS w6 w.heap.size v' (M ++ (b.map (fun t => s ++ t)).take (m + 1))) := by
            show w6.ownsRow _ _ _ _ _ _
            rw [HTM.out, ← List.append_assoc, strV_app, List.length_append, htl]; exact hown6
          clear hown6 hgrow hnv hat O3
          go_wp2_with fail
          go_roundw
          case rel => exact ⟨m + 1, by omega, by go_num, HO6.out, B6⟩
          case measure => simp [intOf]; omega
        · have hm2 : ¬ (m : Int) < (b.length : Int) := by omega
          have HO7 : Hid (OwnS wr w.heap.size u5 (eachW (a.take (q + 1)) b)) := by
            have h := hown
            rw [List.take_of_length_le (by simp; omega), ← HTK.out] at h
            exact h
          clear hown
          go_wp2_with fail
          go_roundw
          case rel => exact ⟨q + 1, by omega, by go_num, HO7.out, hbel⟩
          case measure => simp [intOf]; omega
    · have hq2 : ¬ (q : Int) < (a.length : Int) := by omega
      rw [List.take_of_length_le (by omega)] at hown
      have HO7 : Hid (OwnS _ _ _ _) := hown
      clear hown
      go_wp2_with fail
      go_ret
      exact ⟨⟨_, rfl, HO7.out⟩, hbel⟩

end Go.Proofs.YtdchhjnmhnehiaaGreatDoor

/- The program's keys of a document, whole. -/
namespace Go.Proofs.YtdchhjnmhnehiaaGreatDoor
open Go.RowKit Tr
set_option linter.unusedVariables false

theorem def_parts (n : ByteArray) (ps : List Prt) (h : defB n ps = true) : 1 ≤ ps.length ∧ ps.length ≤ 2 ∧ ∀ v ∈ ps, v.path.size ≤ 50 := by
  unfold defB at h
  simp only [Bool.and_eq_true, decide_eq_true_eq] at h
  obtain ⟨_, ⟨h1, h2⟩, h3, _⟩ := h
  refine ⟨h1, h2, fun v hv => ?_⟩
  have h4 := List.all_eq_true.1 h3 v hv
  exact pieces_le v.path h4
def dkL (n : ByteArray) (ps : List Prt) (doc : Val) : List ByteArray := if (defB n ps && docB doc) = true then docK ps doc else []
def dkC (n : ByteArray) (ps : List Prt) (doc : Val) : Int := if (defB n ps && docB doc) = true then 0 else 1
theorem dk_ok (n : ByteArray) (ps : List Prt) (doc : Val) (h1 : defB n ps = true) (h2 : docB doc = true) : dkL n ps doc = docK ps doc ∧ dkC n ps doc = 0 := by
  unfold dkL dkC; rw [h1, h2]; exact ⟨rfl, rfl⟩
theorem dk_bad (n : ByteArray) (ps : List Prt) (doc : Val) (h : defB n ps = false ∨ docB doc = false) : dkL n ps doc = [] ∧ dkC n ps doc = 1 := by
  unfold dkL dkC
  have e : (defB n ps && docB doc) = false := by rcases h with h | h <;> rw [h] <;> simp
  rw [e]; exact ⟨rfl, rfl⟩
/-- What is answered of a document's keys. -/
structure DkR (n : ByteArray) (ps : List Prt) (doc : Val) (w : World) (e : Ending) (w' : World) : Prop where
  ret : ∃ v, e = .returned (.tuple #[v, .int .i64 (dkC n ps doc)]) ∧ OwnS w' w.heap.size v (dkL n ps doc)
  bel : Below w.heap.size w w'

set_option maxRecDepth 8000 in
set_option maxHeartbeats 4000000 in
theorem docKeysI_any (n : ByteArray) (p : Option Addr) (cap : Nat) (ps : List Prt) (doc : Val) (w : World) (hr : RowD w p ps) (hd : okB doc = true) (hl : ps.length ≤ 2) (hp : ∀ v ∈ ps, v.path.size ≤ 50) :
    Calls Tryz.prog 37 #[.agg #[.string n, .slice p ps.length cap], .agg #[.int .i64 doc.k, .int .i64 doc.n, .string doc.t]] w fun e w' => (∃ v, e = .returned v ∧ OwnS w' w.heap.size v (docK ps doc)) ∧ Below w.heap.size w w' := by
  have hb0 : Below w.heap.size w ((w.alloc (.cells #[.string n, .slice p ps.length cap] 31)).alloc (.cells #[.int .i64 doc.k, .int .i64 doc.n, .string doc.t] 38)) := ((Below.refl _ _).alloc (Nat.le_refl _) _).alloc (by simp) _
  have n0 : ((w.alloc (.cells #[.string n, .slice p ps.length cap] 31)).alloc (.cells #[.int .i64 doc.k, .int .i64 doc.n, .string doc.t] 38)).cell? ⟨w.heap.size, 0, none⟩ = some (.string n) := by simp [go_sem]
  have n1 : ((w.alloc (.cells #[.string n, .slice p ps.length cap] 31)).alloc (.cells #[.int .i64 doc.k, .int .i64 doc.n, .string doc.t] 38)).cell? ⟨w.heap.size, 1, none⟩ = some (.slice p ps.length cap) := by simp [go_sem]
  have d0 : ((w.alloc (.cells #[.string n, .slice p ps.length cap] 31)).alloc (.cells #[.int .i64 doc.k, .int .i64 doc.n, .string doc.t] 38)).cell? ⟨w.heap.size + 1, 0, none⟩ = some (.int .i64 doc.k) := by simp [go_sem]
  have d1 : ((w.alloc (.cells #[.string n, .slice p ps.length cap] 31)).alloc (.cells #[.int .i64 doc.k, .int .i64 doc.n, .string doc.t] 38)).cell? ⟨w.heap.size + 1, 1, none⟩ = some (.int .i64 doc.n) := by simp [go_sem]
  have d2 : ((w.alloc (.cells #[.string n, .slice p ps.length cap] 31)).alloc (.cells #[.int .i64 doc.k, .int .i64 doc.n, .string doc.t] 38)).cell? ⟨w.heap.size + 1, 2, none⟩ = some (.string doc.t) := by simp [go_sem]
  have hs0 : ((w.alloc (.cells #[.string n, .slice p ps.length cap] 31)).alloc (.cells #[.int .i64 doc.k, .int .i64 doc.n, .string doc.t] 38)).heap.size = w.heap.size + 2 := by simp
  have HR : Hid (RowD _ _ _) := hr.next hb0
  have HP : Hid (∀ v ∈ ps, v.path.size ≤ 50) := hp
  have HD : Hid (okB doc = true) := hd
  clear hr hp hd
  go_enter Tryz.func37, Tryz.ntmps37
  go_wp2_with fail
  generalize (w.alloc (.cells #[.string n, .slice p ps.length cap] 31)).alloc (.cells #[.int .i64 doc.k, .int .i64 doc.n, .string doc.t] 38) = W0 at hb0 n0 n1 d0 d1 d2 hs0 HR ⊢
  have HO0 : Hid (OwnS (W0.alloc (.cells #[.string em] 9)) (w.heap.size + 2) (.slice (some ⟨W0.heap.size, 0, none⟩) 1 1) [em]) := ownS_one W0 em (by omega)
  have HB0 : Hid (Below (w.heap.size + 2) W0 (W0.alloc (.cells #[.string em] 9))) := (Below.refl _ _).alloc (by omega) _
  have HS0 : Hid (_ = _) := hs0
  have e1 := HB0.out.cell (p := ⟨w.heap.size, 1, none⟩) (by show w.heap.size < w.heap.size + 2; omega)
  rw [n1] at e1
  rw [hs0] at HO0
  clear hs0
  go_loopw [5, 12] (fun u i wr => ∃ q : Nat, q ≤ ps.length ∧ i = .int .i64 q ∧ OwnS wr (w.heap.size + 2) u (docK (ps.take q) doc) ∧ Below (w.heap.size + 2) W0 wr) (fun _ i _ => ps.length - (intOf i).toNat)
  case atStart => exact ⟨0, Nat.zero_le _, rfl, by rw [List.take_zero]; exact HO0.out, HB0.out⟩
  case round =>
    obtain ⟨q, hq, rfl, hown, hbel⟩ := hrel
    have hz : w.heap.size + 2 ≤ wr.heap.size := by have := hbel.size; have := HS0.out; omega
    have b1 := (hbel.cell (p := ⟨w.heap.size + 1, 0, none⟩) (by show w.heap.size + 1 < w.heap.size + 2; omega)).trans d0
    have b2 := (hbel.cell (p := ⟨w.heap.size + 1, 1, none⟩) (by show w.heap.size + 1 < w.heap.size + 2; omega)).trans d1
    have b3 := (hbel.cell (p := ⟨w.heap.size + 1, 2, none⟩) (by show w.heap.size + 1 < w.heap.size + 2; omega)).trans d2
    have hl1 : w.heap.size + 1 < wr.heap.size := by omega
    clear HO0 HB0 e1
    by_cases hlt : q < ps.length
    · have hq2 : (q : Int) < (ps.length : Int) := by omega
      have hbd := docK_bounds doc HD.out q (ps.take q) (by rw [List.length_take]; omega) (by omega)
      have HTK : Hid (docK (ps.take (q + 1)) doc = eachW (docK (ps.take q) doc) (keysP ps[q] doc)) := docK_take ps doc q hlt
      rcases HR.out.next (show Below W0.heap.size W0 wr by rw [HS0.out]; exact hbel) with h0 | ⟨g, rfl, R⟩
      · subst h0; simp at hlt
      obtain ⟨x0, x1⟩ := R.cells q hlt
      have hgl := R.lt
      obtain ⟨pt, hpt⟩ : ∃ pt, pt = ps[q] := ⟨_, rfl⟩
      have hps : pt.path.size ≤ 50 := by rw [hpt]; exact HP.out _ (List.getElem_mem _)
      rw [← hpt] at x0 x1 HTK
      have hkl := keysP_len pt doc HD.out
      have HKS : Hid (∀ s ∈ keysP pt doc, s.size ≤ 6622) := keysP_size pt doc HD.out
      obtain ⟨M, hM⟩ : ∃ M, M = docK (ps.take q) doc := ⟨_, rfl⟩
      rw [← hM] at hown HTK hbd
      have hml : M.length ≤ 301 := by
        have h1 := hbd.1
        have h2 : (301 : Nat) ^ q ≤ 301 ^ 1 := Nat.pow_le_pow_right (by omega) (by omega)
        omega
      have HMS : Hid (∀ s ∈ M, s.size ≤ 100000) := fun s hs => by have := hbd.2.1 s hs; have : 6622 * q ≤ 6622 * 2 := Nat.mul_le_mul_left _ (by omega); omega
      obtain ⟨p5, c5, rfl, I5⟩ := OwnS.in1 hown
      have hal : Below wr.heap.size wr (wr.alloc (.cells #[.string pt.path, .bool pt.desc] 28)) := (Below.refl _ _).alloc (Nat.le_refl _) _
      have g0 := (hal.cell (p := ⟨w.heap.size + 1, 0, none⟩) hl1).trans b1
      have g1 := (hal.cell (p := ⟨w.heap.size + 1, 1, none⟩) hl1).trans b2
      have g2 := (hal.cell (p := ⟨w.heap.size + 1, 2, none⟩) hl1).trans b3
      have hl2 : w.heap.size + 1 < (wr.alloc (.cells #[.string pt.path, .bool pt.desc] 28)).heap.size := by simp; omega
      have HPK : Hid (∀ W : World, Calls Tryz.prog 68 #[.agg #[.string pt.path, .bool pt.desc], .agg #[.int .i64 doc.k, .int .i64 doc.n, .string doc.t]] W fun e w' => (∃ v, e = .returned v ∧ OwnS w' W.heap.size v (keysP pt doc)) ∧ Below W.heap.size W w') := fun W => partKeys_any pt doc W hps HD.out
      have q0 : (wr.alloc (.cells #[.string pt.path, .bool pt.desc] 28)).cell? ⟨wr.heap.size, 0, none⟩ = some (.string pt.path) := by simp [go_sem]
      have q1 : (wr.alloc (.cells #[.string pt.path, .bool pt.desc] 28)).cell? ⟨wr.heap.size, 1, none⟩ = some (.bool pt.desc) := by simp [go_sem]
      have HI5 : Hid (InT1 _ _ _) := I5.step hal
      have HB5 : Hid (Below (w.heap.size + 2) W0 _) := hbel.trans (hal.mono hz)
      clear R hpt hM hown I5 hbd b1 b2 b3
      go_wp2_with fail
      generalize wr.alloc (.cells #[.string pt.path, .bool pt.desc] 28) = W1 at HI5 HB5 g0 g1 g2 hl2 q0 q1 hal ⊢
      refine (HPK.out _).mono ?_
      rintro e w4 ⟨⟨v4, rfl, O4⟩, hb⟩
      obtain ⟨p4, c4, rfl, I4⟩ := OwnS.in1 O4
      have HI6 : Hid (InT1 _ _ _) := HI5.out.step hb
      have HI4 : Hid (InT1 _ _ _) := I4
      have B4 := HB5.out.trans (hb.mono (by have := HB5.out.size; have := HS0.out; omega))
      clear hb O4 I4 HI5 HPK x0 x1 g0 g1 g2 q0 q1 hal
      go_wp2_with fail
      refine (eachWith_any p5 p4 c5 c4 M (keysP pt doc) _ HI6.out HI4.out (by omega) (by omega) HMS.out (fun s hs => by have := HKS.out s hs; omega)).mono ?_
      rintro e w6 ⟨⟨v6, rfl, O6⟩, hb⟩
      have hz4 : w.heap.size + 2 ≤ w4.heap.size := by have := B4.size; have := HS0.out; omega
      have B6 := B4.trans (hb.mono hz4)
      have HO6 : Hid (OwnS w6 (w.heap.size + 2) v6 (docK (ps.take (q + 1)) doc)) := by rw [HTK.out]; exact owns_mono O6 hz4
      clear hb O6 HI6 HI4
      go_wp2_with fail
      go_roundw
      case rel => exact ⟨q + 1, by omega, by go_num, HO6.out, B6⟩
      case measure => simp [intOf]; omega
    · have hq2 : ¬ (q : Int) < (ps.length : Int) := by omega
      rw [List.take_of_length_le (by omega)] at hown
      have HO7 : Hid (OwnS _ _ _ _) := owns_mono (base' := w.heap.size) hown (by omega)
      have hbw : Below w.heap.size w wr := hb0.trans (hbel.mono (by omega))
      clear hown
      go_wp2_with fail
      go_ret
      exact ⟨⟨_, rfl, HO7.out⟩, hbw⟩

set_option maxRecDepth 4000 in
set_option maxHeartbeats 2000000 in
theorem implDK_any (n : ByteArray) (p : Option Addr) (cap : Nat) (ps : List Prt) (doc : Val) (w : World) (hr : RowD w p ps) (hn : n.size ≤ 1048576) (hl : ps.length ≤ 1048576) (hcap : ps.length ≤ cap) (hs : ∀ v ∈ ps, szPt v) (hd : doc.t.size ≤ 1048576) :
    Calls Tryz.prog 11 #[.agg #[.string n, .slice p ps.length cap], .agg #[.int .i64 doc.k, .int .i64 doc.n, .string doc.t]] w fun e w' => DkR n ps doc w e w' := by
  have hb0 : Below w.heap.size w ((w.alloc (.cells #[.string n, .slice p ps.length cap] 31)).alloc (.cells #[.int .i64 doc.k, .int .i64 doc.n, .string doc.t] 38)) := ((Below.refl _ _).alloc (Nat.le_refl _) _).alloc (by simp) _
  have n0 : ((w.alloc (.cells #[.string n, .slice p ps.length cap] 31)).alloc (.cells #[.int .i64 doc.k, .int .i64 doc.n, .string doc.t] 38)).cell? ⟨w.heap.size, 0, none⟩ = some (.string n) := by simp [go_sem]
  have n1 : ((w.alloc (.cells #[.string n, .slice p ps.length cap] 31)).alloc (.cells #[.int .i64 doc.k, .int .i64 doc.n, .string doc.t] 38)).cell? ⟨w.heap.size, 1, none⟩ = some (.slice p ps.length cap) := by simp [go_sem]
  have d0 : ((w.alloc (.cells #[.string n, .slice p ps.length cap] 31)).alloc (.cells #[.int .i64 doc.k, .int .i64 doc.n, .string doc.t] 38)).cell? ⟨w.heap.size + 1, 0, none⟩ = some (.int .i64 doc.k) := by simp [go_sem]
  have d1 : ((w.alloc (.cells #[.string n, .slice p ps.length cap] 31)).alloc (.cells #[.int .i64 doc.k, .int .i64 doc.n, .string doc.t] 38)).cell? ⟨w.heap.size + 1, 1, none⟩ = some (.int .i64 doc.n) := by simp [go_sem]
  have d2 : ((w.alloc (.cells #[.string n, .slice p ps.length cap] 31)).alloc (.cells #[.int .i64 doc.k, .int .i64 doc.n, .string doc.t] 38)).cell? ⟨w.heap.size + 1, 2, none⟩ = some (.string doc.t) := by simp [go_sem]
  have hs0 : ((w.alloc (.cells #[.string n, .slice p ps.length cap] 31)).alloc (.cells #[.int .i64 doc.k, .int .i64 doc.n, .string doc.t] 38)).heap.size = w.heap.size + 2 := by simp
  have HR : Hid (RowD _ _ _) := hr.next hb0
  have HN : Hid (∀ W : World, RowD W p ps → Calls Tryz.prog 35 #[.agg #[.string n, .slice p ps.length cap]] W fun e w' => e = .returned (.bool (defB n ps)) ∧ Below W.heap.size W w') := fun W hW => defOK_any n p cap ps W hW hn hl hcap hs
  have HD : Hid (∀ W : World, Calls Tryz.prog 36 #[.agg #[.int .i64 doc.k, .int .i64 doc.n, .string doc.t]] W fun e w' => e = .returned (.bool (docB doc)) ∧ Below W.heap.size W w') := fun W => documentOK_any doc W hd
  have HK : Hid (defB n ps = true → docB doc = true → ∀ W : World, RowD W p ps → Calls Tryz.prog 37 #[.agg #[.string n, .slice p ps.length cap], .agg #[.int .i64 doc.k, .int .i64 doc.n, .string doc.t]] W fun e w' => (∃ v, e = .returned v ∧ OwnS w' W.heap.size v (docK ps doc)) ∧ Below W.heap.size W w') := fun h1 h2 W hW => docKeysI_any n p cap ps doc W hW (docB_ok doc h2) (def_parts n ps h1).2.1 (def_parts n ps h1).2.2
  have HKP : Hid (defB n ps = true → docB doc = true → dkL n ps doc = docK ps doc ∧ dkC n ps doc = 0) := fun h1 h2 => dk_ok n ps doc h1 h2
  have HKN : Hid (defB n ps = false ∨ docB doc = false → dkL n ps doc = [] ∧ dkC n ps doc = 1) := fun h => dk_bad n ps doc h
  obtain ⟨A, hA⟩ : ∃ A, A = defB n ps := ⟨_, rfl⟩
  obtain ⟨B, hB⟩ : ∃ B, B = docB doc := ⟨_, rfl⟩
  rw [← hA, ← hB] at HK HKP HKN
  rw [← hA] at HN
  rw [← hB] at HD
  clear hr hs hA hB
  go_enter Tryz.func11, Tryz.ntmps11
  go_wp2_with fail
  generalize (w.alloc (.cells #[.string n, .slice p ps.length cap] 31)).alloc (.cells #[.int .i64 doc.k, .int .i64 doc.n, .string doc.t] 38) = W0 at hb0 n0 n1 d0 d1 d2 hs0 HR ⊢
  have m0 : w.heap.size < W0.heap.size := by omega
  have m1 : w.heap.size + 1 < W0.heap.size := by omega
  clear hs0
  refine (HN.out _ HR.out).mono ?_
  rintro e w1 ⟨rfl, hb⟩
  have HR1 : Hid (RowD _ _ _) := HR.out.next hb
  have hb1 := hb0.trans (hb.mono hb0.size)
  have a0 := (hb.cell (p := ⟨w.heap.size, 0, none⟩) m0).trans n0
  have a1 := (hb.cell (p := ⟨w.heap.size, 1, none⟩) m0).trans n1
  have c0 := (hb.cell (p := ⟨w.heap.size + 1, 0, none⟩) m1).trans d0
  have c1 := (hb.cell (p := ⟨w.heap.size + 1, 1, none⟩) m1).trans d1
  have c2 := (hb.cell (p := ⟨w.heap.size + 1, 2, none⟩) m1).trans d2
  have k0 := Nat.lt_of_lt_of_le m0 hb.size
  have k1 := Nat.lt_of_lt_of_le m1 hb.size
  clear hb n0 n1 d0 d1 d2 HR HN m0 m1
  cases A
  · obtain ⟨e1, e2⟩ := HKN.out (.inl (by first | trivial | rfl))
    have HE1 : Hid (_ = _) := e1
    have HE2 : Hid (_ = _) := e2
    clear e1 e2
    go_wp2_with fail
    go_ret2
    exact ⟨⟨_, by rw [HE2.out]; rfl, by rw [HE1.out]; exact World.ownsRow_nil _ _ _ _⟩, hb1⟩
  · go_wp2_with fail
    refine (HD.out _).mono ?_
    rintro e w2 ⟨rfl, hb⟩
    have HR2 : Hid (RowD _ _ _) := HR1.out.next hb
    have hb2 := hb1.trans (hb.mono hb1.size)
    have a0' := (hb.cell (p := ⟨w.heap.size, 0, none⟩) k0).trans a0
    have a1' := (hb.cell (p := ⟨w.heap.size, 1, none⟩) k0).trans a1
    have c0' := (hb.cell (p := ⟨w.heap.size + 1, 0, none⟩) k1).trans c0
    have c1' := (hb.cell (p := ⟨w.heap.size + 1, 1, none⟩) k1).trans c1
    have c2' := (hb.cell (p := ⟨w.heap.size + 1, 2, none⟩) k1).trans c2
    have k0' := Nat.lt_of_lt_of_le k0 hb.size
    have k1' := Nat.lt_of_lt_of_le k1 hb.size
    clear hb a0 a1 c0 c1 c2 HD HR1
    cases B
    · obtain ⟨e1, e2⟩ := HKN.out (.inr (by first | trivial | rfl))
      have HE1 : Hid (_ = _) := e1
      have HE2 : Hid (_ = _) := e2
      clear e1 e2
      go_wp2_with fail
      go_ret2
      exact ⟨⟨_, by rw [HE2.out]; rfl, by rw [HE1.out]; exact World.ownsRow_nil _ _ _ _⟩, hb2⟩
    · obtain ⟨e1, e2⟩ := HKP.out (by first | trivial | rfl) (by first | trivial | rfl)
      have HE1 : Hid (_ = _) := e1
      have HE2 : Hid (_ = _) := e2
      clear e1 e2
      go_wp2_with fail
      refine (HK.out (by first | trivial | rfl) (by first | trivial | rfl) _ HR2.out).mono ?_
      rintro e w3 ⟨⟨v3, rfl, O3⟩, hb⟩
      have hb3 := hb2.trans (hb.mono hb2.size)
      have HO3 : Hid (OwnS _ _ _ _) := owns_mono O3 hb2.size
      clear hb O3
      go_wp2_with fail
      go_ret2
      exact ⟨⟨_, by rw [HE2.out]; rfl, by rw [HE1.out]; exact HO3.out⟩, hb3⟩

end Go.Proofs.YtdchhjnmhnehiaaGreatDoor
