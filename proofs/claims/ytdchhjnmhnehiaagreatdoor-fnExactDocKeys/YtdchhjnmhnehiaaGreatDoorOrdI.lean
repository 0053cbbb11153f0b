/- What the program's comparing of numbers, texts and pairs of numbers answers. -/
import Derived.Test.YtdchhjnmhnehiaaGreatDoorOrdS
import Derived.Test.YtdchhjnmhnehiaaGreatDoorIn
import Derived.Lib.Walk
import Derived.StillTailTactics
namespace Go.Proofs.YtdchhjnmhnehiaaGreatDoor
open Go.RowKit
set_option linter.unusedVariables false

set_option maxRecDepth 100000 in
set_option maxHeartbeats 1000000 in
theorem cmpStr0_any (a b : ByteArray) (w : World) : Calls Tryz.prog 166 #[.string a, .string b] w fun e w' => e = .returned (.int .i64 (cB a b)) ∧ w' = w := by
  go_enter Tryz.func166, Tryz.ntmps166
  go_wp2
  rw [run_callFunc_extern Tryz.func169 (by kernel_rfl) (by kernel_rfl) (by kernel_rfl) (e := Extern.BytealgCompare.compare) (by kernel_rfl), Lib.run_compareString]
  simp only [Result.andThen]
  rw [Oper.upon_value]
  go_wp2
  go_ret
  exact ⟨rfl, rfl⟩
set_option maxHeartbeats 1000000 in
theorem cmpStr_any (a b : ByteArray) (w : World) : Calls Tryz.prog 160 #[.string a, .string b] w fun e w' => e = .returned (.int .i64 (cB a b)) ∧ w' = w := by
  go_enter Tryz.func160, Tryz.ntmps160
  go_wp2_with (go_at_call 166; refine (cmpStr0_any a b _).mono ?_; rintro e w1 ⟨rfl, rfl⟩)
  go_ret
  exact ⟨rfl, rfl⟩

/-- Two values of three cells in the first two new blocks. -/
structure Two (w W : World) (a b c a' b' c' : Value) : Prop where
  bel : Below w.heap.size w W
  lt : w.heap.size + 1 < W.heap.size
  c0 : W.cell? ⟨w.heap.size, 0, none⟩ = some a
  c1 : W.cell? ⟨w.heap.size, 1, none⟩ = some b
  c2 : W.cell? ⟨w.heap.size, 2, none⟩ = some c
  d0 : W.cell? ⟨w.heap.size + 1, 0, none⟩ = some a'
  d1 : W.cell? ⟨w.heap.size + 1, 1, none⟩ = some b'
  d2 : W.cell? ⟨w.heap.size + 1, 2, none⟩ = some c'
theorem Two.start (w : World) (a b c a' b' c' : Value) (T : TypeId) : Two w ((w.alloc (.cells #[a, b, c] T)).alloc (.cells #[a', b', c'] T)) a b c a' b' c' :=
  ⟨((Below.refl _ _).alloc (Nat.le_refl _) _).alloc (by simp) _, by simp, by simp [go_sem], by simp [go_sem], by simp [go_sem], by simp [go_sem], by simp [go_sem], by simp [go_sem]⟩
theorem Two.step {w W W' : World} {a b c a' b' c' : Value} (h : Two w W a b c a' b' c') (hb : Below W.heap.size W W') : Two w W' a b c a' b' c' :=
  have hl : w.heap.size < W.heap.size := Nat.lt_of_succ_lt h.lt
  ⟨h.bel.trans (hb.mono h.bel.size), Nat.lt_of_lt_of_le h.lt hb.size, (hb.cell hl).trans h.c0, (hb.cell hl).trans h.c1, (hb.cell hl).trans h.c2, (hb.cell h.lt).trans h.d0, (hb.cell h.lt).trans h.d1, (hb.cell h.lt).trans h.d2⟩

theorem still_tail_at {P : Program} {id : Nat} {Q : Exit → Act → World → Prop} {a : Act} {w : World} {l : List Oper} (n : Nat) (hm : P.follows .mixedOrders = true) (hB : Region.lexTailB .any l.toArray n = true)
    (h : ∀ V : World, V = w.drew → wpStill P l.toArray V (fun a' => wpList P l.toArray Q (l.drop n) a' V) (l.take n) a) : (Code.region id l.toArray true).wp P Q a w :=
  wp_region_still_tail n hm hB (h _ rfl)
theorem Two.drawn {w V : World} {a b c a' b' c' : Value} {T : TypeId} (h : V = ((w.alloc (.cells #[a, b, c] T)).alloc (.cells #[a', b', c'] T)).drew) : Two w V a b c a' b' c' := by
  subst h
  exact (Two.start w a b c a' b' c' T).step (Below.refl _ _).drew
end Go.Proofs.YtdchhjnmhnehiaaGreatDoor
