/- What the laws' own helpers on rows of values answer. -/
import Derived.Test.YtpfbepbmiillbaaGreatDoorFindMR
import Derived.Test.YtpfbepbmiillbaaGreatDoorOKAQ
import Derived.Test.YtpfbepbmiillbaaGreatDoorChgBQ
import Derived.Lib.IndexLaws
import Derived.Lib.Split
namespace Go.Proofs.YtpfbepbmiillbaaGreatDoor
open Go.RowKit
set_option linter.unusedVariables false

/-- A row of values that stands at a block's head. -/
structure ReadV (w : World) (g : Nat) (l : List Val) : Prop where
  lt : g < w.heap.size
  cells : ∀ i (h : i < l.length), w.cell? ⟨g, i * 3, none⟩ = some (.int .i64 l[i].k) ∧ w.cell? ⟨g, i * 3 + 1, none⟩ = some (.int .i64 l[i].n) ∧ w.cell? ⟨g, i * 3 + 2, none⟩ = some (.string l[i].t)
theorem ReadV.step {w w' : World} {g base : Nat} {l : List Val} (h : ReadV w g l) (hb : Below base w w') (hg : g < base) : ReadV w' g l :=
  ⟨Nat.lt_of_lt_of_le h.lt hb.size, fun i hi => ⟨(hb.cell hg).trans (h.cells i hi).1, (hb.cell hg).trans (h.cells i hi).2.1, (hb.cell hg).trans (h.cells i hi).2.2⟩⟩
theorem ReadV.next {w w' : World} {g : Nat} {l : List Val} (h : ReadV w g l) (hb : Below w.heap.size w w') : ReadV w' g l := h.step hb h.lt
theorem ReadV.of_own {w : World} {base g cap : Nat} {l : List Val} (h : w.ownsRow base 68 3 (.slice (some ⟨g, 0, none⟩) l.length cap) l.length (flat l)) : ReadV w g l :=
  ⟨(h.lt g rfl).2, fun i hi => ⟨owns_cell h _ _ (flat_get l i hi).1, owns_cell h _ _ (flat_get l i hi).2.1, owns_cell h _ _ (flat_get l i hi).2.2⟩⟩
/-- Block number w.heap.size of W holds three cells that may be written, and all that lay in w lies in W as it did. -/
structure Res3 (w W : World) (a b c : Value) : Prop where
  bel : Below w.heap.size w W
  lt : w.heap.size < W.heap.size
  c0 : W.cell? ⟨w.heap.size, 0, none⟩ = some a
  c1 : W.cell? ⟨w.heap.size, 1, none⟩ = some b
  c2 : W.cell? ⟨w.heap.size, 2, none⟩ = some c
  z0 : W.frozen? ⟨w.heap.size, 0, none⟩ = false
  z1 : W.frozen? ⟨w.heap.size, 1, none⟩ = false
  z2 : W.frozen? ⟨w.heap.size, 2, none⟩ = false
theorem Res3.start (w : World) (a b c : Value) (T : TypeId) : Res3 w (w.alloc (.cells #[a, b, c] T)) a b c :=
  ⟨(Below.refl _ _).alloc (Nat.le_refl _) _, by simp, by simp [go_sem], by simp [go_sem], by simp [go_sem], by simp [go_sem], by simp [go_sem], by simp [go_sem]⟩
theorem Res3.step {w W W' : World} {a b c : Value} (h : Res3 w W a b c) (hb : Below W.heap.size W W') : Res3 w W' a b c :=
  ⟨h.bel.trans (hb.mono h.bel.size), Nat.lt_of_lt_of_le h.lt hb.size, (hb.cell h.lt).trans h.c0, (hb.cell h.lt).trans h.c1, (hb.cell h.lt).trans h.c2, (hb.frozen h.lt).trans h.z0, (hb.frozen h.lt).trans h.z1, (hb.frozen h.lt).trans h.z2⟩
def zv : Val := ⟨0, 0, em⟩
theorem flat_cons (v : Val) (l : List Val) : flat (v :: l) = .int .i64 v.k :: .int .i64 v.n :: .string v.t :: flat l := rfl
theorem flat_set : ∀ (l : List Val) (k : Nat) (v : Val), k < l.length → (((flat l).set (k * 3) (.int .i64 v.k)).set (k * 3 + 1) (.int .i64 v.n)).set (k * 3 + 2) (.string v.t) = flat (l.set k v)
  | [], k, v, h => by simp at h
  | u :: l, 0, v, _ => rfl
  | u :: l, k + 1, v, h => by
    rw [List.set_cons_succ, flat_cons, flat_cons, ← flat_set l k v (by simpa using h)]
    rw [show (k + 1) * 3 = k * 3 + 1 + 1 + 1 by omega]
    rfl
set_option maxRecDepth 4000 in
set_option maxHeartbeats 1000000 in
theorem eqValueS_same (g1 c1 g2 c2 : Nat) (l : List Val) (w : World) (h1 : ReadV w g1 l) (h2 : ReadV w g2 l) (hlen : l.length ≤ 1048576) :
    Calls Tryz.prog 23 #[.slice (some ⟨g1, 0, none⟩) l.length c1, .slice (some ⟨g2, 0, none⟩) l.length c2] w fun e w' => e = .returned (.bool true) ∧ Below w.heap.size w w' := by
  have H1 : Hid _ := h1
  have H2 : Hid _ := h2
  clear h1 h2
  go_enter Tryz.func23, Tryz.ntmps23
  go_wp2_with fail
  go_loopw [5] (fun i wr => ∃ k : Nat, k ≤ l.length ∧ i = .int .i64 k ∧ Below w.heap.size w wr) (fun i _ => l.length - (intOf i).toNat)
  case atStart => exact ⟨0, Nat.zero_le _, rfl, Below.refl _ _⟩
  case round =>
    obtain ⟨k, hk, rfl, hbel⟩ := hrel
    by_cases hlt : k < l.length
    · have x1 := (H1.out.next hbel).cells k hlt
      have x2 := (H2.out.next hbel).cells k hlt
      have l1 := (H1.out.next hbel).lt
      have l2 := (H2.out.next hbel).lt
      have hk1 : (k : Int) < (l.length : Int) := by omega
      have q0 : ∀ u : Under wr, u.x.cell? ⟨g1, k * 3, none⟩ = some (.int .i64 l[k].k) := fun u => (u.h.cell l1).trans x1.1
      have q1 : ∀ u : Under wr, u.x.cell? ⟨g1, k * 3 + 1, none⟩ = some (.int .i64 l[k].n) := fun u => (u.h.cell l1).trans x1.2.1
      have q2 : ∀ u : Under wr, u.x.cell? ⟨g1, k * 3 + 2, none⟩ = some (.string l[k].t) := fun u => (u.h.cell l1).trans x1.2.2
      have r0 : ∀ u : Under wr, u.x.cell? ⟨g2, k * 3, none⟩ = some (.int .i64 l[k].k) := fun u => (u.h.cell l2).trans x2.1
      have r1 : ∀ u : Under wr, u.x.cell? ⟨g2, k * 3 + 1, none⟩ = some (.int .i64 l[k].n) := fun u => (u.h.cell l2).trans x2.2.1
      have r2 : ∀ u : Under wr, u.x.cell? ⟨g2, k * 3 + 2, none⟩ = some (.string l[k].t) := fun u => (u.h.cell l2).trans x2.2.2
      have hnu : Nonempty (Under wr) := ⟨⟨wr, Below.refl _ _⟩⟩
      clear x1 x2
      go_wp2_with fail
      refine wp_region_under (by kernel_rfl) (by kernel_rfl) ?_
      repeat (go_big_quiet_step ((go_at_call 54; exact calls_under _ (eqValue_same l[k].k l[k].n l[k].t _))))
      refine wpQuiet_nil ?_
      rintro _ ⟨u, rfl⟩
      go_wp2_with fail
      go_roundw
      case rel => exact ⟨k + 1, by omega, by go_num, hbel.trans (u.h.mono hbel.size)⟩
      case measure => simp [intOf]; omega
    · go_wp2_with fail
      go_ret
      exact ⟨rfl, hbel⟩

end Go.Proofs.YtpfbepbmiillbaaGreatDoor

/- How a text is parted at points, said plainly; nothing of the program is used here. -/
namespace Go.Proofs.YtpfbepbmiillbaaGreatDoor
open Go.RowKit
set_option linter.unusedVariables false

/-- The pieces of a list of bytes between those that are c. -/
def splitL (c : UInt8) : List UInt8 → List (List UInt8)
  | [] => [[]]
  | x :: r => if x = c then [] :: splitL c r else match splitL c r with
      | [] => [[x]]
      | p :: ps => (x :: p) :: ps
theorem splitL_none (c : UInt8) : ∀ l : List UInt8, (∀ x ∈ l, x ≠ c) → splitL c l = [l]
  | [], _ => rfl
  | x :: r, h => by
    rw [splitL, if_neg (h x (by simp)), splitL_none c r (fun y hy => h y (by simp [hy]))]
theorem splitL_at (c : UInt8) (r : List UInt8) : ∀ a : List UInt8, (∀ x ∈ a, x ≠ c) → splitL c (a ++ c :: r) = a :: splitL c r
  | [], _ => by rw [List.nil_append, splitL, if_pos rfl]
  | x :: a, h => by
    rw [List.cons_append, splitL, if_neg (h x (by simp)), splitL_at c r a (fun y hy => h y (by simp [hy]))]
theorem splitL_len (c : UInt8) : ∀ l : List UInt8, (splitL c l).length = l.count c + 1
  | [] => rfl
  | x :: r => by
    have ih := splitL_len c r
    rw [splitL]
    by_cases h : x = c
    · subst h; rw [if_pos rfl, List.length_cons, ih, List.count_cons_self]
    · rw [if_neg h, List.count_cons_of_ne h]
      cases hs : splitL c r with
      | nil => rw [hs] at ih; simp at ih
      | cons p ps => rw [hs] at ih; simpa using ih

def mkB (l : List UInt8) : ByteArray := ⟨l.toArray⟩
theorem mkB_of (s : ByteArray) : mkB s.data.toList = s := by cases s; simp [mkB]
theorem mkB_data (l : List UInt8) : (mkB l).data.toList = l := by simp [mkB]
/-- The pieces of a text between its points. -/
def pieces (s : ByteArray) : List ByteArray := (splitL 46 s.data.toList).map mkB
theorem pieces_len (s : ByteArray) : (pieces s).length = s.data.toList.count 46 + 1 := by unfold pieces; rw [List.length_map, splitL_len]
theorem pieces_len_le (s : ByteArray) : (pieces s).length ≤ s.size + 1 := by
  rw [pieces_len]
  have := List.count_le_length (a := (46 : UInt8)) (l := s.data.toList)
  have h2 := toList_length s
  omega
theorem byte_get (s : ByteArray) (k : Nat) (h : k < s.size) : s.data.toList[k]? = some s[k] := by
  rw [List.getElem?_eq_getElem (by rw [toList_length]; exact h)]; rfl
theorem pieces_none (s : ByteArray) (h : ∀ k (hk : k < s.size), s[k] ≠ 46) : pieces s = [s] := by
  unfold pieces
  rw [splitL_none 46 s.data.toList (fun x hx => by
    obtain ⟨k, hk, rfl⟩ := List.getElem_of_mem hx
    exact h k (by rw [toList_length] at hk; exact hk))]
  rw [List.map_cons, mkB_of]; rfl
theorem pieces_at (s : ByteArray) (i : Nat) (hi : i < s.size) (hc : s[i] = 46) (h : ∀ k (hk : k < s.size), k < i → s[k] ≠ 46) :
    pieces s = s.extract 0 i :: pieces (s.extract (i + 1) s.size) := by
  have hl : i < s.data.toList.length := by rw [toList_length]; exact hi
  have e : s.data.toList = s.data.toList.take i ++ 46 :: s.data.toList.drop (i + 1) := by
    conv => lhs; rw [← List.take_append_drop i s.data.toList, List.drop_eq_getElem_cons hl]
    rw [show s.data.toList[i] = s[i] from rfl, hc]
  have e2 : (s.extract (i + 1) s.size).data.toList = s.data.toList.drop (i + 1) := by
    rw [extract_list, List.take_of_length_le (by rw [List.length_drop, toList_length]; exact Nat.le_refl _)]
  unfold pieces
  rw [e2]
  conv => lhs; rw [e]
  rw [splitL_at 46 _ _ (fun x hx => by
    obtain ⟨k, hk, rfl⟩ := List.getElem_of_mem hx
    rw [List.length_take] at hk
    rw [List.getElem_take]
    exact h k (by omega) (by omega))]
  rw [List.map_cons]
  congr 1
  have e3 : (s.extract 0 i).data.toList = s.data.toList.take i := by rw [extract_list]; simp
  rw [← e3, mkB_of]
theorem ext_get (s : ByteArray) (a k : Nat) (h : k < (s.extract a s.size).size) : (s.extract a s.size)[k] = s[a + k]'(by simp at h; omega) := by
  simp [ByteArray.getElem_extract]
/-- The same, of what stands behind the place a. -/
theorem pieces_from (s : ByteArray) (a i : Nat) (hai : a ≤ i) (hi : i < s.size) (hc : s[i] = 46) (h : ∀ k (hk : k < s.size), a ≤ k → k < i → s[k] ≠ 46) :
    pieces (s.extract a s.size) = s.extract a i :: pieces (s.extract (i + 1) s.size) := by
  have hz : (s.extract a s.size).size = s.size - a := by simp
  have e := pieces_at (s.extract a s.size) (i - a) (by omega) (by rw [ext_get]; simpa [show a + (i - a) = i by omega] using hc)
    (fun k hk hlt => by rw [ext_get]; exact h (a + k) (by omega) (by omega) (by omega))
  rw [e, ByteArray.extract_extract, ByteArray.extract_extract, hz, show a + 0 = a from rfl, show min (a + (i - a)) s.size = i by omega, show a + (i - a + 1) = i + 1 by omega, show min (a + (s.size - a)) s.size = s.size by omega]
theorem pieces_rest (s : ByteArray) (a : Nat) (h : ∀ k (hk : k < s.size), a ≤ k → s[k] ≠ 46) : pieces (s.extract a s.size) = [s.extract a s.size] :=
  pieces_none _ (fun k hk => by rw [ext_get]; exact h (a + k) (by simp at hk; omega) (by omega))
/-- In the words of the library's search for a byte. -/
theorem pieces_miss (s : ByteArray) (h : Lib.indexByte s.data.toList 46 = -1) : pieces s = [s] :=
  pieces_none s (fun k hk e => by
    have := Lib.indexByte_none h k
    rw [byte_get s k hk, e] at this
    exact this rfl)
theorem pieces_hit (s : ByteArray) (i : Nat) (h : Lib.indexByte s.data.toList 46 = i) : i < s.size ∧ pieces s = s.extract 0 i :: pieces (s.extract (i + 1) s.size) := by
  obtain ⟨h1, h2⟩ := Lib.indexByte_some h
  have hi : i < s.size := by
    rcases Nat.lt_or_ge i s.size with h | h
    · exact h
    · rw [List.getElem?_eq_none (by rw [toList_length]; exact h)] at h1; cases h1
  refine ⟨hi, pieces_at s i hi ?_ ?_⟩
  · rw [byte_get s i hi] at h1; exact Option.some.inj h1
  · intro k hk hlt e
    have := h2 k hlt
    rw [byte_get s k hk, e] at this
    exact this rfl
theorem pieces_size (s p : ByteArray) (h : p ∈ pieces s) : p.size ≤ s.size := by
  suffices H : ∀ (c : UInt8) (l q : List UInt8), q ∈ splitL c l → q.length ≤ l.length by
    unfold pieces at h
    obtain ⟨q, hq, rfl⟩ := List.mem_map.mp h
    have := H _ _ _ hq
    rw [toList_length] at this
    have e : (mkB q).size = q.length := by rw [← toList_length, mkB_data]
    omega
  intro c l
  induction l with
  | nil => intro q hq; simp [splitL] at hq; simp [hq]
  | cons x r ih =>
    intro q hq
    rw [splitL] at hq
    split at hq
    · rcases List.mem_cons.mp hq with rfl | hq
      · simp
      · have := ih q hq; simp; omega
    · cases hs : splitL c r with
      | nil => rw [hs] at hq; simp at hq; subst hq; simp
      | cons p ps =>
        rw [hs] at hq ih
        rcases List.mem_cons.mp hq with rfl | hq
        · have := ih p (by simp); simp; omega
        · have := ih q (by simp [hq]); simp; omega
/-- Is a text a path: of at most fifty bytes, one to four short names, points between. -/
def pathB (s : ByteArray) : Bool := decide (s.size ≤ 50) && decide ((pieces s).length ≤ 4) && (pieces s).all shortB

end Go.Proofs.YtpfbepbmiillbaaGreatDoor
