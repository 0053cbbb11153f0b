/- Texts joined with another text between, said plainly; and the specification's joining of texts. -/
import Derived.Test.YtkeghknceccdmaaGreatDoorTextSQ
import Derived.Test.YtkeghknceccdmaaGreatDoorFiltIQ
import Derived.Test.YtkeghknceccdmaaGreatDoorEncUQ
namespace Go.Proofs.YtkeghknceccdmaaGreatDoor
open Go.RowKit
set_option linter.unusedVariables false

/-- Texts with a text between. -/
def joinB (sep : ByteArray) : List ByteArray → ByteArray
  | [] => em
  | x :: r => r.foldl (fun o y => o ++ sep ++ y) x
theorem joinB_more (sep : ByteArray) (l : List ByteArray) (x : ByteArray) (h : l ≠ []) : joinB sep (l ++ [x]) = joinB sep l ++ sep ++ x := by
  cases l with
  | nil => exact absurd rfl h
  | cons y r => simp [joinB, List.foldl_append]
theorem joinB_take (sep : ByteArray) (l : List ByteArray) (k : Nat) (h : k < l.length) (h0 : 0 < k) : joinB sep (l.take (k + 1)) = joinB sep (l.take k) ++ sep ++ l[k] := by
  rw [List.take_succ_eq_append_getElem h, joinB_more]
  intro e
  have := congrArg List.length e
  rw [List.length_take, List.length_nil] at this
  omega
theorem joinB_take0 (sep : ByteArray) (l : List ByteArray) (h : 0 < l.length) : joinB sep (l.take 1) = em ++ l[0] := by
  cases l with
  | nil => simp at h
  | cons x r =>
    show x = em ++ x
    apply ba_ext
    simp [em]
theorem joinB_len (sep : ByteArray) (b : Nat) (hsep : sep.size ≤ 10) : ∀ l : List ByteArray, (∀ s ∈ l, s.size ≤ b) → ∀ k, (joinB sep (l.take k)).size ≤ l.length * (b + 10) := by
  intro l hl k
  have main : ∀ (r : List ByteArray) (x : ByteArray), (∀ s ∈ r, s.size ≤ b) → (r.foldl (fun o y => o ++ sep ++ y) x).size ≤ x.size + r.length * (b + 10) := by
    intro r
    induction r with
    | nil => intro x _; simp
    | cons y r ih =>
      intro x h
      have h1 := ih (x ++ sep ++ y) (fun s hs => h s (by simp [hs]))
      have h2 := h y (by simp)
      rw [ByteArray.size_append, ByteArray.size_append] at h1
      simp only [List.foldl_cons, List.length_cons, Nat.add_mul] at h1 ⊢
      omega
  have hlen : (l.take k).length ≤ l.length := by rw [List.length_take]; omega
  have hall : ∀ s ∈ l.take k, s.size ≤ b := fun s hs => hl s (List.mem_of_mem_take hs)
  generalize l.take k = m at hlen hall ⊢
  cases m with
  | nil => exact Nat.zero_le _
  | cons x r =>
    have h1 := main r x (fun s hs => hall s (by simp [hs]))
    have h2 := hall x (by simp)
    have h3 : (r.length + 1) * (b + 10) ≤ l.length * (b + 10) := Nat.mul_le_mul_right _ (by simpa using hlen)
    rw [Nat.add_mul] at h3
    show (r.foldl _ x).size ≤ _
    omega

set_option maxRecDepth 4000 in
set_option maxHeartbeats 1000000 in
theorem joinB_any (g cap : Nat) (sep : ByteArray) (l : List ByteArray) (w : World) (hr : ReadS w g 0 l) (hsep : sep.size ≤ 10) (hl : l.length ≤ 1000) (hj : ∀ k, (joinB sep (l.take k)).size ≤ 1000000000) (hs : ∀ s ∈ l, s.size ≤ 1000000000) :
    Calls Tryz.prog 139 #[.slice (some ⟨g, 0, none⟩) l.length cap, .string sep] w fun e w' => e = .returned (.string (joinB sep l)) ∧ Below w.heap.size w w' := by
  have HR : Hid _ := hr
  have HJ : Hid _ := hj
  have HS : Hid _ := hs
  clear hr hj hs
  go_enter Tryz.func139, Tryz.ntmps139
  go_wp2_with fail
  go_loopw [5, 6] (fun u i wr => ∃ q : Nat, q ≤ l.length ∧ i = .int .i64 q ∧ u = .string (joinB sep (l.take q)) ∧ Below w.heap.size w wr) (fun _ i _ => l.length - (intOf i).toNat)
  case atStart => exact ⟨0, Nat.zero_le _, rfl, rfl, Below.refl _ _⟩
  case round =>
    obtain ⟨q, hq, rfl, rfl, hbel⟩ := hrel
    have hsz : (joinB sep (l.take q)).size ≤ 1000000000 := HJ.out q
    by_cases hlt : q < l.length
    · have x0 := (HR.out.next hbel).cells q hlt
      rw [Nat.zero_add] at x0
      have hsq := HS.out l[q] (List.getElem_mem _)
      by_cases hq0 : q = 0
      · subst hq0
        have hnq : ¬ (0 : Int) < 0 := by omega
        have hcat : joinB sep (l.take (0 + 1)) = joinB sep (l.take 0) ++ l[0] := by
          rw [Nat.zero_add, joinB_take0 _ _ hlt]; rfl
        obtain ⟨A, hA⟩ : ∃ A, A = joinB sep (l.take 0) := ⟨_, rfl⟩
        rw [← hA] at hcat hsz ⊢
        have HC : Hid (_ = _) := hcat
        clear hcat hA
        go_wp2_with fail
        go_roundw
        case rel => exact ⟨0 + 1, by omega, by go_num, by rw [HC.out], hbel⟩
        case measure => simp [intOf]; omega
      · have hq1 : 0 < q := by omega
        have hcat : joinB sep (l.take (q + 1)) = joinB sep (l.take q) ++ sep ++ l[q] := joinB_take _ _ _ hlt hq1
        have hsz3 : (joinB sep (l.take q) ++ sep).size ≤ 1000000010 := by rw [ByteArray.size_append]; omega
        have HC : Hid (_ = _) := hcat
        clear hcat hq0
        go_wp2_with fail
        go_roundw
        case rel => exact ⟨q + 1, by omega, by go_num, by rw [HC.out], hbel⟩
        case measure => simp [intOf]; omega
    · have e : l.take q = l := List.take_of_length_le (by omega)
      rw [e]
      go_wp2_with fail
      go_ret
      exact ⟨rfl, hbel⟩

end Go.Proofs.YtkeghknceccdmaaGreatDoor

/- The words of a term's operation, said plainly, and the specification's row of them. -/
namespace Go.Proofs.YtkeghknceccdmaaGreatDoor
open Go.RowKit
set_option linter.unusedVariables false

/-- The words of the operations, the first of them none's. -/
def words : List ByteArray := [⟨#[]⟩, ⟨#[101, 113]⟩, ⟨#[110, 101]⟩, ⟨#[108, 116]⟩, ⟨#[108, 116, 101]⟩, ⟨#[103, 116]⟩, ⟨#[103, 116, 101]⟩, ⟨#[105, 110]⟩, ⟨#[101, 120, 105, 115, 116, 115]⟩, ⟨#[116, 121, 112, 101]⟩, ⟨#[115, 105, 122, 101]⟩]
set_option maxRecDepth 4000 in
set_option maxHeartbeats 1000000 in
theorem l03Words_any (w : World) : Calls Tryz.prog 137 #[] w fun e w' => e = .returned (.slice (some ⟨w.heap.size, 0, none⟩) 11 11) ∧ ReadS w' w.heap.size 0 words ∧ Below w.heap.size w w' := by
  go_enter Tryz.func137, Tryz.ntmps137
  go_wp2_with fail
  go_ret
  refine ⟨rfl, ⟨by simp, fun i hi => ?_⟩, (Below.refl _ _).alloc (Nat.le_refl _) _⟩
  have hi' : i < 11 := hi
  rcases (show i = 0 ∨ i = 1 ∨ i = 2 ∨ i = 3 ∨ i = 4 ∨ i = 5 ∨ i = 6 ∨ i = 7 ∨ i = 8 ∨ i = 9 ∨ i = 10 by omega) with rfl | rfl | rfl | rfl | rfl | rfl | rfl | rfl | rfl | rfl | rfl <;> simp [go_sem, words]

end Go.Proofs.YtkeghknceccdmaaGreatDoor

/- The text of a filter, said plainly, and how long it is at most. Nothing of the program is used here. -/
namespace Go.Proofs.YtkeghknceccdmaaGreatDoor
open Go.RowKit
set_option linter.unusedVariables false

/-- The text of a term. -/
def textTm (t : Trm) : ByteArray := t.p ++ (⟨#[32]⟩ : ByteArray) ++ words.getD t.op.toNat em ++ (⟨#[32]⟩ : ByteArray) ++ mkB (textV 5 t.c)
/-- The text of a clause. -/
def textCl (l : List Trm) : ByteArray := joinB ⟨#[32, 97, 110, 100, 32]⟩ (l.map textTm)
/-- The text of a filter. -/
def textFi (f : List (List Trm)) : ByteArray := joinB ⟨#[32, 111, 114, 32]⟩ (f.map textCl)
theorem word_len (n : Nat) : (words.getD n em).size ≤ 6 := by
  by_cases h : n < 11
  · rcases (show n = 0 ∨ n = 1 ∨ n = 2 ∨ n = 3 ∨ n = 4 ∨ n = 5 ∨ n = 6 ∨ n = 7 ∨ n = 8 ∨ n = 9 ∨ n = 10 by omega) with rfl | rfl | rfl | rfl | rfl | rfl | rfl | rfl | rfl | rfl | rfl <;> decide
  · have e : words.getD n em = em := by rw [List.getD_eq_getElem?_getD, List.getElem?_eq_none (by show 11 ≤ n; omega)]; rfl
    rw [e]; decide
theorem textTm_len (t : Trm) (h : okT t = true) : (textTm t).size ≤ 6700 := by
  have hc : okB t.c = true := by unfold okT termB at h; simp at h; exact h.2.1
  have hp : t.p.size ≤ 50 := by
    rcases Nat.lt_or_ge 50 t.p.size with h' | h'
    · unfold okT termB at h; rw [pathB_long t.p h'] at h; cases h
    · exact h'
  have h1 := textV_len 5 t.c hc
  have h2 := ok_size t.c hc
  have h3 := word_len t.op.toNat
  unfold textTm
  simp only [ByteArray.size_append, mkB_size]
  have e : (⟨#[32]⟩ : ByteArray).size = 1 := rfl
  rw [e]; omega
theorem textCl_len (l : List Trm) (h : clauseB l = true) (k : Nat) : (joinB ⟨#[32, 97, 110, 100, 32]⟩ ((l.map textTm).take k)).size ≤ 26840 := by
  unfold clauseB at h; simp at h
  have h1 := joinB_len ⟨#[32, 97, 110, 100, 32]⟩ 6700 (by decide) (l.map textTm) (fun s hs => by
    obtain ⟨t, ht, rfl⟩ := List.mem_map.mp hs
    exact textTm_len t (h.2 t ht)) k
  rw [List.length_map] at h1
  have h2 : l.length * (6700 + 10) ≤ 4 * 6710 := Nat.mul_le_mul_right _ h.1
  omega
theorem textCl_size (l : List Trm) (h : clauseB l = true) : (textCl l).size ≤ 26840 := by
  have := textCl_len l h (l.map textTm).length
  rwa [List.take_length] at this
theorem textFi_len (f : List (List Trm)) (h : filtB f = true) (k : Nat) : (joinB ⟨#[32, 111, 114, 32]⟩ ((f.map textCl).take k)).size ≤ 80550 := by
  unfold filtB at h; simp at h
  have h1 := joinB_len ⟨#[32, 111, 114, 32]⟩ 26840 (by decide) (f.map textCl) (fun s hs => by
    obtain ⟨l, hl, rfl⟩ := List.mem_map.mp hs
    exact textCl_size l (h.2 l hl)) k
  rw [List.length_map] at h1
  have h2 : f.length * (26840 + 10) ≤ 3 * 26850 := Nat.mul_le_mul_right _ h.1.2
  omega

end Go.Proofs.YtkeghknceccdmaaGreatDoor
