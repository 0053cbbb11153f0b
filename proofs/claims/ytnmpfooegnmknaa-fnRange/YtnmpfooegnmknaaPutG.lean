/- A page's head, and an append onto a row that is not owned and has no room. -/
import Derived.Test.YtnmpfooegnmknaaPutF
import Derived.Deep.AppendSrc
namespace Go.Proofs.Ytnmpfooegnmknaa.Tr
open Go.RowKit
set_option linter.unusedVariables false

theorem cutHeadM (b off n ca q : Nat) (h : q ≤ ca) (W : World) : (Instr.slice 47 (.slice (some ⟨b, off, none⟩) n ca) none (some (.int .i64 q)) (some (.int .i64 q))).run Try.prog W = .ok (.slice (some ⟨b, off, none⟩) q q) W := by
  have he : Try.prog.elem 47 = 40 := by kernel_rfl
  refine (run_slice_hm (P := Try.prog) (w := W) 47 (some ⟨b, off, none⟩) n ca (by kernel_rfl) .i64 .i64 q q (by omega) (by omega) (by omega)).trans ?_
  rw [he, Try.sizeOf40]
  simp [sliced, Result.andThen, Addr.add]
theorem headOf_any (b o g off c q : Nat) (p : Pg) (w : World) (hbl : b < w.heap.size) (h1 : w.cell? ⟨b, o + 1, none⟩ = some (.slice (some ⟨g, off, none⟩) p.es.length c)) (hq : q ≤ c) (hq2 : q ≤ 1048576) :
    Calls Try.prog 134 #[.pointer (some ⟨b, o, none⟩), .int .i64 q] w fun e' w' => e' = .returned (.slice (some ⟨g, off, none⟩) q q) ∧ w' = w := by
  have qs := cutHeadM g off p.es.length c q hq
  go_enter Try.func134, Try.ntmps134
  go_wp2_with fail
  go_ret
  exact ⟨rfl, rfl⟩
theorem step_appN {ops : Array Oper} {o : Oper} {a : Act} {w : World} {K : Act → World → Prop} {Q : Exit → Act → World → Prop} {E : Prop} (hgd : o.guard = none) (s x : Operand)
    (ho : o.op = .call { callee := .builtin .append, args := #[s, x], argTypes := #[47, 47] }) (b off n : Nat) (l : List Ent)
    (hs : a.eval s = .slice (some ⟨b, off, none⟩) n n) (hl : l.length = n) (hb : b < w.heap.size) (hc : ∀ j u, (flatE l)[j]? = some u → w.cell? ((⟨b, off, none⟩ : Addr).add j) = some u)
    (b2 off2 m c : Nat) (l2 : List Ent) (hx : a.eval x = .slice (some ⟨b2, off2, none⟩) m c) (hl2 : l2.length = m) (hc2 : ∀ j u, (flatE l2)[j]? = some u → w.cell? ((⟨b2, off2, none⟩ : Addr).add j) = some u) (hn : n + m ≤ 8)
    (hK : ∀ g o2 c' w', g < w'.heap.size → (∀ j u, (flatE (l ++ l2))[j]? = some u → w'.cell? ((⟨g, o2, none⟩ : Addr).add j) = some u) → Below w.heap.size w w' → (g = b ∨ w.heap.size ≤ g) → n + m ≤ c' → K (a.put o.dst (.slice (some ⟨g, o2, none⟩) (n + m) c')) w') : if Region.wanted o (yielded ops a.tmps) = true then Oper.wp Try.prog o a w K Q else E := by
  have hw : Region.wanted o (yielded ops a.tmps) = true := by simp [Region.wanted, hgd]
  rw [if_pos hw]
  obtain ⟨i0, hi, hz0, hz1, hz2⟩ := info_parts infoE
  rcases Nat.eq_zero_or_pos m with h0 | h0
  · subst h0
    have hl0 : l2 = [] := List.length_eq_zero_iff.1 hl2
    subst hl0
    have hr : ∀ ty, (Builtin.append_ #[47, 47] ty #[.slice (some ⟨b, off, none⟩) n n, .slice (some ⟨b2, off2, none⟩) 0 c]).run Try.prog w = .ok (.slice (some ⟨b, off, none⟩) (n + 0) n) w := by
      intro ty
      have h := run_append_room_src (P := Try.prog) (w := w) 47 47 ty 40 i0 Try.underlying47 hi b off n n (.slice (some ⟨b2, off2, none⟩) 0 c) 0 [] (Src.ofSlice (P := Try.prog) w (e' := 40) Try.underlying47 ⟨b2, off2, none⟩ 0 c [] (by simp) (fun j u hj => by simp at hj) (fun u hu => by cases hu)) (by omega) (fun j hj => absurd hj (by simp)) (fun j hj => absurd hj (by simp))
      exact h
    unfold Oper.wp execOp
    simp only [ho, resolve, invoke, builtin, Sem.run_bind, Sem.run_pure, Result.andThen_ok, List.map_toArray, List.map_cons, List.map_nil, hs, hx, hr]
    exact hK b off n w hb (by rw [List.append_nil]; exact hc) (Below.refl _ _) (.inl rfl) (by omega)
  · have hr : ∀ ty, ∃ c', n + m ≤ c' ∧ (Builtin.append_ #[47, 47] ty #[.slice (some ⟨b, off, none⟩) n n, .slice (some ⟨b2, off2, none⟩) m c]).run Try.prog w = .ok (.slice (some ⟨w.heap.size, 0, none⟩) (n + m) c') (w.drew.alloc (.cells ((flatE l).toArray ++ (flatE l2).toArray ++ Builtin.zeroCells (Value.agg #[.string em, .int .i64 0]).cells (c' - (n + m))) 40)) := by
      intro ty
      exact ⟨_, grownCap_ge _ _ _ _, run_append_grow (P := Try.prog) (w := w) 47 ty 40 i0 _ Try.underlying47 hi hz0 ⟨b, off, none⟩ n n (flatE l) (by rw [flatE_len, hz1, hl]) hc ⟨b2, off2, none⟩ m c (flatE l2) (by rw [flatE_len, hz1, hl2]) hc2 (by omega) (by omega) (by rw [hz2]; have := nextslicecap_le (need := n + m) (old := n) (by omega); omega)⟩
    obtain ⟨c', hcc, hr⟩ := hr o.type
    unfold Oper.wp execOp
    simp only [ho, resolve, invoke, builtin, Sem.run_bind, Sem.run_pure, Result.andThen_ok, List.map_toArray, List.map_cons, List.map_nil, hs, hx, hr]
    refine hK w.heap.size 0 c' _ (by simp) ?_ ((Below.refl _ _).drew.alloc (by simp) _) (.inr (Nat.le_refl _)) hcc
    intro j u hj
    rw [flatE_app] at hj
    have hadd : (⟨w.heap.size, 0, none⟩ : Addr).add j = ⟨w.heap.size, j, none⟩ := by unfold Addr.add; split <;> simp_all
    rw [hadd]
    have hjl : j < (flatE l ++ flatE l2).length := by
      rcases Nat.lt_or_ge j (flatE l ++ flatE l2).length with h | h
      · exact h
      · rw [List.getElem?_eq_none h] at hj; cases hj
    have hcell : ∀ (W : World) (cs : Array Value) (T : TypeId), (W.alloc (.cells cs T)).cell? ⟨W.heap.size, j, none⟩ = cs[j]? := fun W cs T => World.cell?_alloc_new W cs T j
    have hs0 : w.drew.heap.size = w.heap.size := rfl
    rw [← hs0, hcell, Array.getElem?_append_left (by simpa using hjl)]
    simpa using hj

end Go.Proofs.Ytnmpfooegnmknaa.Tr
