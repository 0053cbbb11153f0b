/- A page with one entry more, and a page parted: what the program answers. -/
import Derived.Test.YtnmpfooegnmknaaDraC
import Derived.Deep.AppendSrc
namespace Go.Proofs.Ytnmpfooegnmknaa.Tr
open Go.RowKit
set_option linter.unusedVariables false

/-- Entries as they lie behind a slice, a nil one too. -/
def LieE (w : World) (q : Option Addr) (l : List Ent) : Prop := (q = none ∧ l = []) ∨ ∃ b off, q = some ⟨b, off, none⟩ ∧ b < w.heap.size ∧ ∀ j u, (flatE l)[j]? = some u → w.cell? ((⟨b, off, none⟩ : Addr).add j) = some u
theorem LieE.next {w w' : World} {q : Option Addr} {l : List Ent} (h : LieE w q l) (hb : Below w.heap.size w w') : LieE w' q l := by
  rcases h with h | ⟨b, off, h1, h2, h3⟩
  · exact .inl h
  · exact .inr ⟨b, off, h1, Nat.lt_of_lt_of_le h2 hb.size, cells_next hb h2 h3⟩
theorem LieE.src {w : World} {q : Option Addr} {l : List Ent} {c : Nat} (h : LieE w q l) : Src Try.prog 2 47 (.slice q l.length c) l.length (flatE l) w := by
  rcases h with ⟨rfl, rfl⟩ | ⟨b, off, rfl, h2, h3⟩
  · exact Src.ofNil (P := Try.prog) w (e' := 40) Try.underlying47 c
  · exact Src.ofSlice (P := Try.prog) w (e' := 40) Try.underlying47 ⟨b, off, none⟩ l.length c (flatE l) (flatE_len l) h3 (flatE_one l)
theorem PgC.lie_take {w : World} {b o c : Nat} {q : Option Addr} {p : Pg} (h : PgC w b o q c p) (i : Nat) : LieE w q (p.es.take i) := by
  rcases h.form with ⟨rfl, hc⟩ | ⟨b', o', rfl, hb⟩
  · have : p.es = [] := List.length_eq_zero_iff.1 (by have := h.cap; omega)
    exact .inl ⟨rfl, by rw [this]; simp⟩
  · refine .inr ⟨b', o', rfl, hb, ?_⟩
    rcases h.ents with h0 | ⟨b2, o2, e, _, hcs⟩
    · intro j u hj; rw [List.length_eq_zero_iff.1 h0] at hj; simp [flatE] at hj
    · cases e; exact take_cells hcs
/-- The tail of a page's entries, as a slice. -/
theorem PgC.tail {w : World} {b o c : Nat} {q : Option Addr} {p : Pg} (h : PgC w b o q c p) (i : Nat) (hi : i ≤ p.es.length) : ∃ q', (∀ W : World, (Instr.slice 47 (.slice q p.es.length c) (some (.int .i64 i)) none none).run Try.prog W = .ok (.slice q' (p.es.length - i) (c - i)) W) ∧ LieE w q' (p.es.drop i) ∧ (q' = none ∨ ∃ x y y', q' = some ⟨x, y, none⟩ ∧ q = some ⟨x, y', none⟩ ∧ x < w.heap.size) := by
  rcases h.form with ⟨rfl, hc⟩ | ⟨b', o', rfl, hb⟩
  · have h0 : p.es.length = 0 := by have := h.cap; omega
    have hi0 : i = 0 := by omega
    subst hi0
    refine ⟨none, fun W => ?_, .inl ⟨rfl, by rw [List.length_eq_zero_iff.1 h0]; rfl⟩, .inl rfl⟩
    have he : Try.prog.elem 47 = 40 := by kernel_rfl
    refine (run_slice_l (P := Try.prog) (w := W) 47 none p.es.length c (by kernel_rfl) .i64 ((0 : Nat) : Int) (by omega) (by omega)).trans ?_
    rw [he, Try.sizeOf40]
    simp [sliced, Result.andThen]
  · refine ⟨some ⟨b', if c = i then o' else o' + i * 2, none⟩, cutTailE b' o' p.es.length c i hi, .inr ⟨b', _, rfl, hb, ?_⟩, .inr ⟨b', _, o', rfl, rfl, hb⟩⟩
    by_cases hci : c = i
    · have : p.es.drop i = [] := List.drop_eq_nil_of_le (by have := h.cap; omega)
      intro j u hj; rw [this] at hj; simp [flatE] at hj
    · rw [if_neg hci]
      rcases h.ents with h0 | ⟨b2, o2, e, _, hcs⟩
      · intro j u hj; rw [List.length_eq_zero_iff.1 h0] at hj; simp [flatE] at hj
      · cases e; exact drop_cells hcs
theorem cutHeadQ (q : Option Addr) (n ca i : Nat) (h : i ≤ ca) (hq : q = none → i = 0) (W : World) : (Instr.slice 47 (.slice q n ca) none (some (.int .i64 i)) (some (.int .i64 i))).run Try.prog W = .ok (.slice q i i) W := by
  cases q with
  | none =>
    have := hq rfl
    subst this
    have he : Try.prog.elem 47 = 40 := by kernel_rfl
    refine (run_slice_hm (P := Try.prog) (w := W) 47 none n ca (by kernel_rfl) .i64 .i64 ((0 : Nat) : Int) ((0 : Nat) : Int) (by omega) (by omega) (by omega)).trans ?_
    rw [he, Try.sizeOf40]
    simp [sliced, Result.andThen]
  | some a =>
    have he : Try.prog.elem 47 = 40 := by kernel_rfl
    refine (run_slice_hm (P := Try.prog) (w := W) 47 (some a) n ca (by kernel_rfl) .i64 .i64 i i (by omega) (by omega) (by omega)).trans ?_
    rw [he, Try.sizeOf40]
    simp [sliced, Result.andThen, Addr.add]
theorem headOf_pg (b o c i : Nat) (q : Option Addr) (p : Pg) (w : World) (hbl : b < w.heap.size) (h1 : w.cell? ⟨b, o + 1, none⟩ = some (.slice q p.es.length c)) (hi : i ≤ c) (hi2 : i ≤ 1048576) (hq : q = none → i = 0) :
    Calls Try.prog 134 #[.pointer (some ⟨b, o, none⟩), .int .i64 i] w fun e' w' => e' = .returned (.slice q i i) ∧ w' = w := by
  have qs := cutHeadQ q p.es.length c i hi hq
  clear hq
  go_enter Try.func134, Try.ntmps134
  go_wp2_with fail
  go_ret
  exact ⟨rfl, rfl⟩

/-- An append that must make a new row. -/
theorem step_appG {ops : Array Oper} {o : Oper} {a : Act} {w : World} {K : Act → World → Prop} {Q : Exit → Act → World → Prop} {E : Prop} (hgd : o.guard = none) (s x : Operand)
    (ho : o.op = .call { callee := .builtin .append, args := #[s, x], argTypes := #[47, 47] }) (q : Option Addr) (n : Nat) (l : List Ent)
    (hs : a.eval s = .slice q n n) (hl : l.length = n) (hq : LieE w q l) (ad : Addr) (m c : Nat) (news : List Value) (hx : a.eval x = .slice (some ad) m c) (hm : 1 ≤ m) (hl2 : news.length = m * 2) (hnews : ∀ j u, news[j]? = some u → w.cell? (ad.add j) = some u) (h1 : ∀ u ∈ news, u.oneCell' = true) (hn : n + m ≤ 8) (S : Nat) (hS : w.heap.size = S)
    (hK : ∀ c' w', w'.ownsRow S 40 2 (.slice (some ⟨S, 0, none⟩) (n + m) c') (n + m) (flatE l ++ news) → Below w.heap.size w w' → S < w'.heap.size → K (a.put o.dst (.slice (some ⟨S, 0, none⟩) (n + m) c')) w') : if Region.wanted o (yielded ops a.tmps) = true then Oper.wp Try.prog o a w K Q else E := by
  subst hS
  have hw : Region.wanted o (yielded ops a.tmps) = true := by simp [Region.wanted, hgd]
  rw [if_pos hw]
  obtain ⟨i0, hi, hz0, hz1, hz2⟩ := info_parts infoE
  have hsrc := LieE.src (c := n) hq
  rw [hl] at hsrc
  have hr : ∀ ty, ∃ c', n + m ≤ c' ∧ c' ≤ maxLen ∧ (Builtin.append_ #[47, 47] ty #[.slice q n n, .slice (some ad) m c]).run Try.prog w = .ok (.slice (some ⟨w.heap.size, 0, none⟩) (n + m) c') (w.drew.alloc (.cells ((flatE l ++ news).toArray ++ Builtin.zeroCells (Value.agg #[.string em, .int .i64 0]).cells (c' - (n + m))) 40)) := by
    intro ty
    exact ⟨_, grownCap_ge _ _ _ _, grownCap_le_maxLen _ _ _ _ (by unfold maxLen; omega), run_append_grow_src (P := Try.prog) (w := w) 47 47 ty 40 i0 _ Try.underlying47 hi hz0 q n n (flatE l) (by rw [hz1]; exact hsrc.cellsD) (.slice (some ad) m c) m news (by rw [hz1]; exact Src.ofSlice (P := Try.prog) w (e' := 40) Try.underlying47 ad m c news hl2 hnews h1) (by omega) (by omega) (by rw [hz2]; have := nextslicecap_le (need := n + m) (old := n) (by omega); omega)⟩
  obtain ⟨c', hcc, hcm, hr⟩ := hr o.type
  unfold Oper.wp execOp
  simp only [ho, resolve, invoke, builtin, Sem.run_bind, Sem.run_pure, Result.andThen_ok, List.map_toArray, List.map_cons, List.map_nil, hs, hx, hr]
  have hzc : (Value.agg #[.string em, .int .i64 0]).cells.size = 2 := rfl
  refine hK c' _ ⟨by rw [List.length_append, flatE_len, hl, hl2]; omega, .inr ⟨w.heap.size, c', _, rfl, Nat.le_refl _, heap_alloc_new w.drew _, hcc, hcm, ?_, ?_⟩⟩ ((Below.refl _ _).drew.alloc (by simp) _) (by simp)
  · have hzz : (Builtin.zeroCells (Value.agg #[.string em, .int .i64 0]).cells (c' - (n + m))).size = (c' - (n + m)) * 2 := by
      have hc : (Value.agg #[.string em, .int .i64 0]).cells = #[.string em, .int .i64 0] := rfl
      rw [hc]; simp [Builtin.zeroCells]
    rw [Array.size_append, hzz, List.size_toArray, List.length_append, flatE_len, hl, hl2]; omega
  · rw [Array.toList_append, List.toList_toArray, List.take_append_of_le_length (by rw [List.length_append, flatE_len, hl, hl2]; omega), List.take_of_length_le (by rw [List.length_append, flatE_len, hl, hl2]; omega)]
/-- An append of entries, or of none, onto a row of the call's own. -/
theorem step_appS {ops : Array Oper} {o : Oper} {a : Act} {w : World} {K : Act → World → Prop} {Q : Exit → Act → World → Prop} {E : Prop} (hgd : o.guard = none) (s x : Operand)
    (ho : o.op = .call { callee := .builtin .append, args := #[s, x], argTypes := #[47, 47] }) (base n : Nat) (v : Value) (xs : List Value)
    (hs : a.eval s = v) (hown : w.ownsRow base 40 2 v n xs) (hn0 : 1 ≤ n) (q : Option Addr) (m c : Nat) (l : List Ent) (hx : a.eval x = .slice q m c) (hl : l.length = m) (hc0 : q = none → c = 0) (hq : LieE w q l)
    (hn : n ≤ 1000) (hm : m ≤ 1000) (hbase : base ≤ w.heap.size)
    (hK : ∀ g' c' w', w'.ownsRow base 40 2 (.slice (some ⟨g', 0, none⟩) (n + m) c') (n + m) (xs ++ flatE l) → w.grownBy w' v.ownBlock → K (a.put o.dst (.slice (some ⟨g', 0, none⟩) (n + m) c')) w') : if Region.wanted o (yielded ops a.tmps) = true then Oper.wp Try.prog o a w K Q else E := by
  rcases hq with ⟨rfl, rfl⟩ | ⟨b, off, rfl, _, hcs⟩
  · have hw : Region.wanted o (yielded ops a.tmps) = true := by simp [Region.wanted, hgd]
    rw [if_pos hw]
    obtain ⟨i0, hi, hz0, hz1, hz2⟩ := info_parts infoE
    have hm0 : m = 0 := by rw [← hl]; rfl
    subst hm0
    have hcc := hc0 rfl
    subst hcc
    have hr := run_append_owned_none (P := Try.prog) (w := w) base 47 o.type 40 i0 2 Try.underlying47 hi v n xs hown
    unfold Oper.wp execOp
    simp only [ho, resolve, invoke, builtin, Sem.run_bind, Sem.run_pure, Result.andThen_ok, List.map_toArray, List.map_cons, List.map_nil, hs, hx, hr]
    obtain ⟨g', c', rfl, _⟩ := owns_form hown (by omega)
    have := hK g' c' w (by rw [Nat.add_zero]; simpa [flatE] using hown) ⟨rfl, rfl, rfl, Nat.le_refl _, fun _ _ _ => rfl⟩
    rw [Nat.add_zero] at this
    exact this
  · refine step_appE hgd s x ho base n v xs hs hown ⟨b, off, none⟩ m c (flatE l) hx (by rw [flatE_len, hl]) hcs (flatE_one l) hn hm hbase ?_
    intro v' w' h1 h2
    obtain ⟨g', c', rfl, _⟩ := owns_form h1 (by omega)
    exact hK g' c' w' h1 h2

end Go.Proofs.Ytnmpfooegnmknaa.Tr
