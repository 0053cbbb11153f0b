/- The pairs of changes that are of one document: the iterator's contract. -/
import Derived.RangeFuncNested
import Derived.RangeFuncBound
import Derived.RangeFuncCalls
import Derived.RangeFuncLeaves
import Derived.Shelf.Abstract
import Derived.Shelf.RegionOpen
import Derived.WalkKit
import Derived.OwnWalkIn
import Derived.TacticsInMore
import Derived.LoopNIn
import Derived.LoopIn
import Derived.Test.YtcggkeleaepebaaGreatDoorChgVQ
import Derived.WalkMore
import Derived.RangeFuncFrom
import Derived.Deep.RegionHeld3
namespace Go.Proofs.YtcggkeleaepebaaGreatDoor.Ce
open Go.RowKit Go.Shelf Tr Co Rea
set_option linter.unusedVariables false
attribute [local go_sem] Oper.semAt_some

/-- Whatever cells lie there lie there still, with what they hold. -/
structure Kc (W W' : World) : Prop where
  size : W.heap.size ≤ W'.heap.size
  cell : ∀ b o v, W.cell? ⟨b, o, none⟩ = some v → W'.cell? ⟨b, o, none⟩ = some v
theorem Kc.refl (W : World) : Kc W W := ⟨Nat.le_refl _, fun _ _ _ h => h⟩
theorem Kc.trans {A B C : World} (h : Kc A B) (k : Kc B C) : Kc A C := ⟨Nat.le_trans h.size k.size, fun b o v e => k.cell b o v (h.cell b o v e)⟩
theorem cell_lt {W : World} {b o : Nat} {v : Value} (h : W.cell? ⟨b, o, none⟩ = some v) : b < W.heap.size := by
  rcases Nat.lt_or_ge b W.heap.size with hh | hh
  · exact hh
  · exfalso
    have : W.heap[b]? = none := Array.getElem?_eq_none hh
    simp [World.cell?, this] at h
theorem Kc.below {W W' : World} (h : Below W.heap.size W W') : Kc W W' := ⟨h.size, fun b o v e => (h.cell (p := ⟨b, o, none⟩) (cell_lt e)).trans e⟩
theorem kc_b {w : World} (W : World) (l : Nat) (o o' : Obj) (_ : w.heap.size ≤ l) (h : W.heap[l]? = some o) (hc : o.isCells = false) (_ : o.isWalk = false) : Kc W (W.putObj l o') :=
  ⟨(grownBy_putObj' W l o').size, fun b oo v e => cell_kept e (grownBy_putObj' W l o') (fun r er => by cases er; exact ⟨o, h, hc⟩)⟩
theorem grown_of_below {W W' : World} (h : Below W.heap.size W W') : W.grownBy W' none := ⟨h.os, h.tape, h.output, h.size, fun k hk _ => h.block k hk⟩
theorem readCg_kc {W W' : World} {g : Nat} {l : List Cgr} (h : ReadCg W g l) (hk : Kc W W') : ReadCg W' g l :=
  ⟨Nat.lt_of_lt_of_le h.lt hk.size, fun i hi => by
    obtain ⟨x0, x1, x2, x3, x4, x5, x6, x7, x8, x9⟩ := h.cells i hi
    exact ⟨hk.cell _ _ _ x0, hk.cell _ _ _ x1, hk.cell _ _ _ x2, hk.cell _ _ _ x3, hk.cell _ _ _ x4, hk.cell _ _ _ x5, hk.cell _ _ _ x6, hk.cell _ _ _ x7, hk.cell _ _ _ x8, hk.cell _ _ _ x9⟩⟩
/-- The places of two that are bound. -/
def Good (cs : List Cgr) (x : Nat × Nat) : Prop := ∃ (h1 : x.1 < cs.length) (h2 : x.2 < cs.length), sameD cs[x.1] cs[x.2] = true
/-- All pairs ahead of (k, q) that are bound have come, and no others. -/
def Come (cs : List Cgr) (k q : Nat) (pre : List (Nat × Nat)) : Prop :=
  pre.length ≤ k * cs.length + q ∧ (∀ x ∈ pre, Good cs x) ∧ ∀ i j, (i < k ∨ (i = k ∧ j < q)) → Good cs (i, j) → (i, j) ∈ pre

end Go.Proofs.YtcggkeleaepebaaGreatDoor.Ce

/- The pairs of changes that are of one document: the iterator's walk. -/
namespace Go.Proofs.YtcggkeleaepebaaGreatDoor.Ce
open Go.RowKit Go.Shelf Tr Co Rea
set_option linter.unusedVariables false
attribute [local go_sem] Oper.semAt_some

/-- A change in a box of its own. -/
structure BxT (W : World) (b : Nat) (x : Cgr) : Prop where
  c0 : W.cell? ⟨b, 0, none⟩ = some (.string x.wr.coll)
  c1 : W.cell? ⟨b, 1, none⟩ = some (.int .i64 x.wr.id)
  c2 : W.cell? ⟨b, 2, none⟩ = some (.bool x.wr.gone)
  c3 : W.cell? ⟨b, 3, none⟩ = some (.int .i64 x.wr.doc.k)
  c4 : W.cell? ⟨b, 4, none⟩ = some (.int .i64 x.wr.doc.n)
  c5 : W.cell? ⟨b, 5, none⟩ = some (.string x.wr.doc.t)
  c6 : W.cell? ⟨b, 6, none⟩ = some (.int .i64 x.bef.k)
  c7 : W.cell? ⟨b, 7, none⟩ = some (.int .i64 x.bef.n)
  c8 : W.cell? ⟨b, 8, none⟩ = some (.string x.bef.t)
  c9 : W.cell? ⟨b, 9, none⟩ = some (.bool x.was)
theorem BxT.kc {W W' : World} {b : Nat} {x : Cgr} (h : BxT W b x) (k : Kc W W') : BxT W' b x :=
  ⟨k.cell _ _ _ h.c0, k.cell _ _ _ h.c1, k.cell _ _ _ h.c2, k.cell _ _ _ h.c3, k.cell _ _ _ h.c4, k.cell _ _ _ h.c5, k.cell _ _ _ h.c6, k.cell _ _ _ h.c7, k.cell _ _ _ h.c8, k.cell _ _ _ h.c9⟩
theorem BxT.start (w : World) (x : Cgr) (T : TypeId) : BxT (w.alloc (.cells #[.string x.wr.coll, .int .i64 x.wr.id, .bool x.wr.gone, .int .i64 x.wr.doc.k, .int .i64 x.wr.doc.n, .string x.wr.doc.t, .int .i64 x.bef.k, .int .i64 x.bef.n, .string x.bef.t, .bool x.was] T)) w.heap.size x := by
  constructor <;> simp [go_sem]
theorem Come.next {cs : List Cgr} {k q : Nat} {pre : List (Nat × Nat)} (h : Come cs k q pre) (hn : ¬ Good cs (k, q)) : Come cs k (q + 1) pre :=
  ⟨by have := h.1; omega, h.2.1, fun i j hij hg => by
    rcases hij with hh | ⟨rfl, hh⟩
    · exact h.2.2 i j (.inl hh) hg
    · by_cases hj : j = q
      · subst hj; exact absurd hg hn
      · exact h.2.2 i j (.inr ⟨rfl, by omega⟩) hg⟩
theorem Come.add {cs : List Cgr} {k q : Nat} {pre : List (Nat × Nat)} (h : Come cs k q pre) (hn : Good cs (k, q)) : Come cs k (q + 1) (pre ++ [(k, q)]) :=
  ⟨by have := h.1; rw [List.length_append]; simp; omega, fun x hx => by
    rcases List.mem_append.1 hx with hx | hx
    · exact h.2.1 x hx
    · simp at hx; subst hx; exact hn, fun i j hij hg => by
    rcases hij with hh | ⟨rfl, hh⟩
    · exact List.mem_append.2 (.inl (h.2.2 i j (.inl hh) hg))
    · by_cases hj : j = q
      · subst hj; simp
      · exact List.mem_append.2 (.inl (h.2.2 i j (.inr ⟨rfl, by omega⟩) hg))⟩
theorem Come.turn {cs : List Cgr} {k : Nat} {pre : List (Nat × Nat)} (h : Come cs k cs.length pre) : Come cs (k + 1) 0 pre :=
  ⟨by have := h.1; rw [Nat.add_mul]; omega, h.2.1, fun i j hij hg => by
    have h2 : j < cs.length := hg.2.1
    rcases hij with hh | ⟨rfl, hh⟩
    · by_cases hi : i = k
      · subst hi; exact h.2.2 i j (.inr ⟨rfl, h2⟩) hg
      · exact h.2.2 i j (.inl (by omega)) hg
    · omega⟩
theorem Come.room {cs : List Cgr} {k q : Nat} {pre : List (Nat × Nat)} (h : Come cs k q pre) (hk : k < cs.length) (hq : q < cs.length) : pre.length < cs.length * cs.length := by
  have h1 := h.1
  have h2 : (k + 1) * cs.length ≤ cs.length * cs.length := Nat.mul_le_mul_right _ hk
  rw [Nat.add_mul] at h2
  omega

set_option maxRecDepth 100000 in
set_option maxHeartbeats 4000000 in
theorem pairs1_in (n : Nat) (hn : 1 ≤ n) (l B1 B2 B3 g c1 c2 n1 : Nat) (cs : List Cgr) (hl : cs.length ≤ 1048576) (J Jx : List (Nat × Nat) → World → Prop) (hJ : AbidesFrom n1 J)
    (hY : ∀ pre x W, J pre W → pre.length < cs.length * cs.length → YieldAt Fence.wide (n - 1) Tryz.prog l #[.int .i64 (x.1 : Int), .int .i64 (x.2 : Int)] W fun e W' =>
      (e = .returned (.bool true) ∧ J (pre ++ [x]) W' ∧ Kc W W') ∨ (e = .returned (.bool false) ∧ Jx (pre ++ [x]) W'))
    (W : World) (hB1 : W.cell? ⟨B1, 0, none⟩ = some (.slice (some ⟨g, 0, none⟩) cs.length c1)) (hB2 : W.cell? ⟨B2, 0, none⟩ = some (.slice (some ⟨g, 0, none⟩) cs.length c2)) (hB3 : W.cell? ⟨B3, 0, none⟩ = some (.func (.func 81) #[] #[])) (hR : ReadCg W g cs) (h0 : J [] W) :
    CallsIn Fence.wide n Tryz.prog 104 #[.func (.yield l) #[] #[], .pointer (some ⟨B1, 0, none⟩), .pointer (some ⟨B2, 0, none⟩), .pointer (some ⟨B3, 0, none⟩)] W fun e W' => (∃ v, e = .returned v) ∧
      ((∃ ys, Come cs cs.length 0 ys ∧ J ys W') ∨ (∃ pre, (∀ x ∈ pre, Good cs x) ∧ Jx pre W')) := by
  have HR : Hid (ReadCg _ _ _) := hR
  clear hR
  refine callsIn_of_wp Tryz.func104 rfl trivial ?_ rfl
  simp only [Tryz.ntmps104, List.size_toArray, List.length_cons, List.length_nil, Nat.reduceAdd, Nat.reduceSub, Array.replicate_succ, Array.replicate_zero, List.push_toArray, List.append_toArray, List.nil_append, List.cons_append]
  gi_wp2
  refine wpIn_wide.2 (wp_scope_straight ((wpIn_wide (n := n)).1 ?_))
  refine wpIn_seq (wpIn_label ?_)
  gi_wp2
  gi_loopw [11] (fun i wr => ∃ (k : Nat) (pre : List (Nat × Nat)), k ≤ cs.length ∧ i = .int .i64 k ∧ Come cs k 0 pre ∧ J pre wr ∧ Kc W wr)
    (fun i _ => cs.length - (intOf i).toNat)
  case atStart => exact ⟨0, [], Nat.zero_le _, rfl, ⟨by simp, by simp, fun i j h => by omega⟩, h0, Kc.refl _⟩
  case round =>
    obtain ⟨k, pre, hk, rfl, hcm, hJs, hkc⟩ := hrel
    have HCM : Hid (Come _ _ _ _) := hcm
    clear hcm
    by_cases hlt : k < cs.length
    · have hlt2 : (k : Int) < (cs.length : Int) := by omega
      have R1 := readCg_kc HR.out hkc
      obtain ⟨x0, x1, x2, x3, x4, x5, x6, x7, x8, x9⟩ := R1.cells k hlt
      have hg1 := R1.lt
      have hsame : ∀ (q : Nat) (h : q < cs.length), Good cs (k, q) ↔ sameD cs[k] cs[q] = true := fun q h => ⟨fun ⟨_, _, e⟩ => e, fun e => ⟨hlt, h, e⟩⟩
      have HSM : Hid (∀ (q : Nat) (h : q < cs.length), Good cs (k, q) ↔ sameD cs[k] cs[q] = true) := hsame
      clear hsame
      obtain ⟨x, hx⟩ : ∃ x, x = cs[k] := ⟨_, rfl⟩
      rw [← hx] at x0 x1 x2 x3 x4 x5 x6 x7 x8 x9 HSM
      clear hx
      have hal : Below wr.heap.size wr (wr.alloc (.cells #[.string x.wr.coll, .int .i64 x.wr.id, .bool x.wr.gone, .int .i64 x.wr.doc.k, .int .i64 x.wr.doc.n, .string x.wr.doc.t, .int .i64 x.bef.k, .int .i64 x.bef.n, .string x.bef.t, .bool x.was] 86)) := (Below.refl _ _).alloc (Nat.le_refl _) _
      have HJ5 : Hid (J pre _) := hJ _ _ _ none hJs (grown_of_below hal) (fun r e => by cases e)
      have HK5 : Hid (Kc W _) := hkc.trans (Kc.below hal)
      have HX5 : Hid (BxT _ wr.heap.size x) := BxT.start wr x 86
      clear hal
      have hB2w := hkc.cell _ _ _ hB2
      have hl2 := cell_lt hB2w
      clear R1
      gi_wp2
      clear x0 x1 x2 x3 x4 x5 x6 x7 x8 x9 hB2w hl2 hg1
      generalize wr.alloc _ = W5 at HJ5 HK5 HX5 ⊢
      gi_loopw [18] (fun j wq => ∃ (q : Nat) (pr : List (Nat × Nat)), q ≤ cs.length ∧ j = .int .i64 q ∧ Come cs k q pr ∧ J pr wq ∧ Kc W5 wq)
        (fun j _ => cs.length - (intOf j).toNat)
      case atStart => exact ⟨0, pre, Nat.zero_le _, rfl, HCM.out, HJ5.out, Kc.refl _⟩
      case round =>
        obtain ⟨q, pr, hq, rfl, hcm, hJq, hkq⟩ := hrel
        have HCQ : Hid (Come _ _ _ _) := hcm
        clear hcm HCM
        by_cases hlq : q < cs.length
        · have hlq2 : (q : Int) < (cs.length : Int) := by omega
          have hkW := HK5.out.trans hkq
          have R1 := readCg_kc HR.out hkW
          obtain ⟨x0, x1, x2, x3, x4, x5, x6, x7, x8, x9⟩ := R1.cells q hlq
          have hg1 := R1.lt
          have hB3w := hkW.cell _ _ _ hB3
          have hl3 := cell_lt hB3w
          obtain ⟨y0, y1, y2, y3, y4, y5, y6, y7, y8, y9⟩ := HX5.out.kc hkq
          have hly := cell_lt y0
          have HG : Hid (Good cs (k, q) ↔ sameD x cs[q] = true) := HSM.out q hlq
          obtain ⟨y, hy⟩ : ∃ y, y = cs[q] := ⟨_, rfl⟩
          rw [← hy] at x0 x1 x2 x3 x4 x5 x6 x7 x8 x9 HG
          clear hy R1
          have hal : Below wr.heap.size wr (wr.alloc (.cells #[.string y.wr.coll, .int .i64 y.wr.id, .bool y.wr.gone, .int .i64 y.wr.doc.k, .int .i64 y.wr.doc.n, .string y.wr.doc.t, .int .i64 y.bef.k, .int .i64 y.bef.n, .string y.bef.t, .bool y.was] 86)) := (Below.refl _ _).alloc (Nat.le_refl _) _
          cases hP : sameD x y
          · have HP : Hid (sameD x y = false) := hP
            have HN : Hid (¬ Good cs (k, q)) := fun hh => by have := HG.out.1 hh; rw [hP] at this; cases this
            clear hP
            gi_wp2
            refine ⟨trivial, (callsIn_wide.2 (sameDoc_any x y _)).mono ?_⟩
            rintro e w1 ⟨rfl, hb⟩
            rw [HP.out]
            have hBq : Below wr.heap.size wr w1 := hal.trans (hb.mono (by simp))
            have hJ1 : J pr w1 := hJ _ _ _ none hJq (grown_of_below hBq) (fun r e => by cases e)
            have hk1 : Kc W5 w1 := hkq.trans (Kc.below hBq)
            clear hb x0 x1 x2 x3 x4 x5 x6 x7 x8 x9 y0 y1 y2 y3 y4 y5 y6 y7 y8 y9 hBq hal
            gi_wp2
            refine ⟨fun _ h => (by cases h), ?_⟩
            gi_wp2
            go_roundw
            case rel => exact ⟨q + 1, pr, by omega, by go_num, HCQ.out.next HN.out, hJ1, hk1⟩
            case measure => simp [intOf]; omega
          · have HP : Hid (sameD x y = true) := hP
            have HN : Hid (Good cs (k, q)) := HG.out.2 hP
            clear hP
            gi_wp2
            refine ⟨trivial, (callsIn_wide.2 (sameDoc_any x y _)).mono ?_⟩
            rintro e w1 ⟨rfl, hb⟩
            rw [HP.out]
            have hBq : Below wr.heap.size wr w1 := hal.trans (hb.mono (by simp))
            have hJ1 : J pr w1 := hJ _ _ _ none hJq (grown_of_below hBq) (fun r e => by cases e)
            have hk1 : Kc W5 w1 := hkq.trans (Kc.below hBq)
            clear hb x0 x1 x2 x3 x4 x5 x6 x7 x8 x9 y0 y1 y2 y3 y4 y5 y6 y7 y8 y9 hBq hal
            obtain ⟨fn, tmps, assign, body, hy, hR⟩ := hY pr (k, q) w1 hJ1 (HCQ.out.room hlt hlq)
            dsimp only at hy
            gi_wp2
            refine hR.mono ?_
            rintro e W3 (⟨rfl, hJ3, hk3⟩ | ⟨rfl, hJx3⟩)
            · gi_wp2
              go_roundw
              case rel => exact ⟨q + 1, pr ++ [(k, q)], by omega, by go_num, HCQ.out.add HN.out, hJ3, hk1.trans hk3⟩
              case measure => simp [intOf]; omega
            · gi_wp2
              rw [Exit.noGoto_normal]
              go_end0
              exact ⟨⟨_, rfl⟩, .inr ⟨_, (HCQ.out.add HN.out).2.1, hJx3⟩⟩
        · have hlq2 : ¬ (q : Int) < (cs.length : Int) := by omega
          obtain rfl : q = cs.length := by omega
          gi_wp2
          go_roundw
          case rel => exact ⟨k + 1, pr, by omega, by go_num, HCQ.out.turn, hJq, HK5.out.trans hkq⟩
          case measure => simp [intOf]; omega
    · have hlt2 : ¬ (k : Int) < (cs.length : Int) := by omega
      obtain rfl : k = cs.length := by omega
      gi_wp2
      go_end0
      exact ⟨⟨_, rfl⟩, .inl ⟨_, HCM.out, hJs⟩⟩

end Go.Proofs.YtcggkeleaepebaaGreatDoor.Ce

/- Whether a document is changed twice: the loop over the pairs. -/
namespace Go.Proofs.YtcggkeleaepebaaGreatDoor.Ce
open Go.RowKit Go.Shelf Tr Co Rea
set_option linter.unusedVariables false
attribute [local go_sem] Oper.semAt_some

/-- The world behind the pairs' maker. -/
def mkP (w : World) (v1 v2 : Value) (T : TypeId) : World := ((w.alloc (.cells #[v1] 34)).alloc (.cells #[v2] 34)).alloc (.cells #[.func (.func 81) #[] #[]] T)
set_option maxRecDepth 4000 in
set_option maxHeartbeats 1000000 in
theorem pairs_any (p1 p2 : Option Addr) (n1 n2 c1 c2 : Nat) (w : World) :
    Calls Tryz.prog 80 #[.slice p1 n1 c1, .slice p2 n2 c2, .func (.func 81) #[] #[]] w fun e w' => e = .returned (.func (.func 104) #[] #[.pointer (some ⟨w.heap.size, 0, none⟩), .pointer (some ⟨w.heap.size + 1, 0, none⟩), .pointer (some ⟨w.heap.size + 1 + 1, 0, none⟩)]) ∧ ∃ T, w' = mkP w (.slice p1 n1 c1) (.slice p2 n2 c2) T := by
  go_enter Tryz.func80, Tryz.ntmps80
  go_wp2_with fail
  go_ret
  exact ⟨rfl, _, rfl⟩
theorem mkP_facts (w : World) (v1 v2 : Value) (T : TypeId) : Below w.heap.size w (mkP w v1 v2 T) ∧ (mkP w v1 v2 T).heap.size = w.heap.size + 3 ∧ (mkP w v1 v2 T).cell? ⟨w.heap.size, 0, none⟩ = some v1 ∧ (mkP w v1 v2 T).cell? ⟨w.heap.size + 1, 0, none⟩ = some v2 ∧ (mkP w v1 v2 T).cell? ⟨w.heap.size + 1 + 1, 0, none⟩ = some (.func (.func 81) #[] #[]) := by
  unfold mkP
  exact ⟨(((Below.refl _ _).alloc (Nat.le_refl _) _).alloc (by simp) _).alloc (by simp; omega) _, by simp, by simp [go_sem], by simp [go_sem], by simp [go_sem]⟩

set_option maxRecDepth 100000 in
set_option maxHeartbeats 4000000 in
theorem twice_any (g c : Nat) (cs : List Cgr) (w : World) (hR : ReadCg w g cs) (hl : cs.length ≤ 1048576) :
    Calls Tryz.prog 53 #[.slice (some ⟨g, 0, none⟩) cs.length c] w fun e w' => (∃ R : Bool, e = .returned (.bool R) ∧ (R = true ↔ ∃ x, Good cs x ∧ x.1 ≠ x.2)) ∧ Below w.heap.size w w' := by
  refine (callsIn_wide (n := 4)).1 ?_
  refine callsIn_of_wp_marks Tryz.func53 rfl trivial ?_ rfl
  simp only [Tryz.ntmps53, List.size_toArray, List.length_cons, List.length_nil, Nat.reduceAdd, Nat.reduceSub, Array.replicate_succ, Array.replicate_zero, List.push_toArray, List.append_toArray, List.nil_append, List.cons_append]
  gi_wp2
  refine ⟨trivial, (callsIn_wide.2 (pairs_any _ _ _ _ _ _ _)).mono ?_⟩
  rintro e w' ⟨rfl, T, rfl⟩
  have c0 : (w.alloc (.cells #[.bool false] 4)).cell? ⟨w.heap.size, 0, none⟩ = some (.bool false) ∧ (w.alloc (.cells #[.bool false] 4)).frozen? ⟨w.heap.size, 0, none⟩ = false := ⟨by simp [go_sem], by simp [go_sem]⟩
  obtain ⟨m0, m1, m2, m3, m4⟩ := mkP_facts (w.alloc (.cells #[.bool false] 4)) (.slice (some ⟨g, 0, none⟩) cs.length c) (.slice (some ⟨g, 0, none⟩) cs.length c) T
  have hlow : Below w.heap.size w (w.alloc (.cells #[.bool false] 4)) := (Below.refl _ w).alloc (Nat.le_refl _) _
  generalize mkP (w.alloc (.cells #[.bool false] 4)) (.slice (some ⟨g, 0, none⟩) cs.length c) (.slice (some ⟨g, 0, none⟩) cs.length c) T = W0 at m0 m1 m2 m3 m4 ⊢
  have hB0 : Below w.heap.size w W0 := hlow.trans (m0.mono (by simp))
  have k0 : W0.cell? ⟨w.heap.size, 0, none⟩ = some (.bool false) := (m0.cell (p := ⟨w.heap.size, 0, none⟩) (by simp)).trans c0.1
  have f0 : W0.frozen? ⟨w.heap.size, 0, none⟩ = false := (m0.frozen (p := ⟨w.heap.size, 0, none⟩) (by simp)).trans c0.2
  simp only [World.size_alloc] at m1 m2 m3 m4
  have hR0 : ReadCg W0 g cs := hR.next hB0
  clear m0 c0 hlow hR
  gi_wp2
  refine wpIn_rangeFunc_ownF rfl (by decide) (gf := 104) (lb := #[.pointer (some ⟨w.heap.size + 1, 0, none⟩), .pointer (some ⟨w.heap.size + 1 + 1, 0, none⟩), .pointer (some ⟨w.heap.size + 1 + 1 + 1, 0, none⟩)]) rfl trivial (enters_of Tryz.func104 (by kernel_rfl) rfl)
    (α := Nat × Nat) (encs := fun x => #[.int .i64 (x.1 : Int), .int .i64 (x.2 : Int)]) (Kp := Kc) (S := Come cs cs.length 0) (Sp := fun pre => ∀ x ∈ pre, Good cs x) (N := cs.length * cs.length) (w0 := W0)
    (fun l J Jx W hW hJ _ hY h0 => pairs1_in 3 (by decide) l (w.heap.size + 1) (w.heap.size + 1 + 1) (w.heap.size + 1 + 1 + 1) g c c W.heap.size cs hl J Jx hJ hY W ((Kc.below hW).cell _ _ _ m2) ((Kc.below hW).cell _ _ _ m3) ((Kc.below hW).cell _ _ _ m4) (hR0.next hW) h0)
    Kc.trans (kc_b (w := W0)) (Below.refl _ _) (fun _ => rfl)
    (fun pre W => ((∀ x ∈ pre, x.1 = x.2) ∧ W.cell? ⟨w.heap.size, 0, none⟩ = some (.bool false) ∧ W.frozen? ⟨w.heap.size, 0, none⟩ = false) ∧ Below w.heap.size w W)
    (fun cd pre W => (cd = .ret ∧ (∃ x ∈ pre, x.1 ≠ x.2) ∧ W.cell? ⟨w.heap.size, 0, none⟩ = some (.bool true)) ∧ Below w.heap.size w W)
    (OwnFrom.and (Own.from (fun s A B row hs hg hr => ⟨hs.1, cell_kept hs.2.1 hg hr, (frozen_kept hs.2.1 hg hr).trans hs.2.2⟩) _) (ownFrom_below (Nat.le_refl _) (by omega)))
    (fun cd => OwnFrom.and (Own.from (fun s A B row hs hg hr => ⟨hs.1, hs.2.1, cell_kept hs.2.2 hg hr⟩) _) (ownFrom_below (Nat.le_refl _) (by omega)))
    ⟨⟨by simp, k0, f0⟩, hB0⟩
    (fun x => { tmps := #[.slice (some ⟨g, 0, none⟩) cs.length c, undef, .pointer (some ⟨w.heap.size, 0, none⟩), .int .i64 (x.1 : Int), .int .i64 (x.2 : Int), .slice (some ⟨g, 0, none⟩) cs.length c, .slice (some ⟨g, 0, none⟩) cs.length c, .func (.func 104) #[] #[.pointer (some ⟨w.heap.size + 1, 0, none⟩), .pointer (some ⟨w.heap.size + 1 + 1, 0, none⟩), .pointer (some ⟨w.heap.size + 1 + 1 + 1, 0, none⟩)], .int .i64 (x.1 : Int), .int .i64 (x.2 : Int), undef, undef, undef], defers := [] }) ?assign ?body ?done ?stop
  case assign =>
    intro l x W K hK
    gi_wp2
    exact hK
  case body =>
    rintro l pre x W ⟨⟨hp, hcr, hfr⟩, hB⟩ _
    by_cases hx : x.1 = x.2
    · have hx2 : ((x.1 : Int) == (x.2 : Int)) = true := by simp [hx]
      gi_wp2
      exact ⟨KeepsOthers.refl _, Kc.refl _, ⟨fun y hy => (List.mem_append.1 hy).elim (hp y) (fun e => by simp at e; subst e; exact hx), hcr, hfr⟩, hB⟩
    · have hx2 : ((x.1 : Int) == (x.2 : Int)) = false := by simp; omega
      gi_wp2
      exact ⟨KeepsOthers.setCell _ _ _, ⟨rfl, ⟨x, by simp, hx⟩, World.cell?_setCell_same' _ _ _ (by rw [hcr]; rfl)⟩, hB.setCell (p := ⟨w.heap.size, 0, none⟩) (by simp) _⟩
  case done =>
    rintro D ys W hD hS ⟨⟨hne, hcr, hfr⟩, hB⟩ hK
    gi_wp2
    have hK' := (KeepsOthers.setCell W ⟨w.heap.size, 0, none⟩ (.bool false)).same D _ hK rfl
    refine ⟨by simp, .inl ⟨_, _, rfl, run_takeDeferred hK', ?_⟩⟩
    have hc5 := cell_kept (World.cell?_setCell_same' W ⟨w.heap.size, 0, none⟩ (.bool false) (by rw [hcr]; rfl)) (grownBy_putObj' _ D (.deferred none)) (fun r e => by cases e; exact ⟨_, hK', rfl⟩)
    refine ⟨.bool false, ?_, ⟨false, rfl, ⟨fun h => (by cases h), fun ⟨x, hg, hxx⟩ => absurd (hne (x.1, x.2) (hS.2.2 x.1 x.2 (.inl hg.1) hg)) hxx⟩⟩, (hB.setCell (p := ⟨w.heap.size, 0, none⟩) (by simp) _).trans (belowK_b (w := w) (Nat.le_refl _) _ D _ _ (by omega) hK' rfl rfl)⟩
    simp [results, Tryz.f53, go_sem, hc5]
  case stop =>
    rintro D cd pre W hD hpre ⟨⟨rfl, ⟨x, hin, hxx⟩, hcr⟩, hB⟩ hK
    gi_wp2
    refine ⟨by simp, .inl ⟨_, _, rfl, run_takeDeferred hK, ?_⟩⟩
    have hc5 := cell_kept hcr (grownBy_putObj' _ D (.deferred none)) (fun r e => by cases e; exact ⟨_, hK, rfl⟩)
    refine ⟨.bool true, ?_, ⟨true, rfl, ⟨fun _ => ⟨x, hpre x hin, hxx⟩, fun _ => rfl⟩⟩, hB.trans (belowK_b (w := w) (Nat.le_refl _) W D _ _ (by omega) hK rfl rfl)⟩
    simp [results, Tryz.f53, go_sem, hc5]

end Go.Proofs.YtcggkeleaepebaaGreatDoor.Ce

/- Whether a committed one is right: the program's answer. -/
namespace Go.Proofs.YtcggkeleaepebaaGreatDoor.Ce
open Go.RowKit Tr Co Rea
set_option linter.unusedVariables false

theorem sameD_comm (a b : Cgr) : sameD a b = sameD b a := by
  unfold sameD
  have h1 : (a.wr.coll.toList == b.wr.coll.toList) = (b.wr.coll.toList == a.wr.coll.toList) := Bool.beq_comm
  have h2 : decide (a.wr.id = b.wr.id) = decide (b.wr.id = a.wr.id) := by simp [eq_comm]
  rw [h1, h2]
theorem lstB_from (cs : List Cgr) : ∀ (m k : Nat), cs.length ≤ k + m → (lstB (cs.take k) (cs.drop k) = true ↔ ∀ i (h : i < cs.length), k ≤ i → okCg cs[i] = true ∧ ∀ j (hj : j < i), sameD (cs[j]'(by omega)) cs[i] = false) := by
  intro m
  induction m with
  | zero =>
    intro k hk
    rw [lstB_end cs k (by omega)]
    exact ⟨fun _ i h hi => by omega, fun _ => rfl⟩
  | succ m ih =>
    intro k hk
    by_cases hlt : k < cs.length
    · rw [lstB_step cs k hlt, Bool.and_eq_true, Bool.and_eq_true, ih (k + 1) (by omega), Bool.not_eq_true']
      constructor
      · rintro ⟨h1, h2, h3⟩ i h hi
        by_cases hik : i = k
        · subst hik
          refine ⟨h1, fun j hj => ?_⟩
          rw [Bool.eq_false_iff]
          intro hh
          rw [any_at cs (fun y => sameD y cs[i]) i j (by omega) hj hh] at h2
          cases h2
        · exact h3 i h (by omega)
      · intro H
        refine ⟨(H k hlt (Nat.le_refl _)).1, ?_, fun i h hi => H i h (by omega)⟩
        rw [Bool.eq_false_iff]
        intro hh
        obtain ⟨v, hv, hv2⟩ := List.any_eq_true.1 hh
        obtain ⟨j, hj, rfl⟩ := List.mem_take_iff_getElem.1 hv
        have hjk : j < k := by omega
        have := (H k hlt (Nat.le_refl _)).2 j hjk
        rw [this] at hv2
        cases hv2
    · rw [lstB_end cs k (by omega)]
      exact ⟨fun _ i h hi => by omega, fun _ => rfl⟩
theorem lstB_iff (cs : List Cgr) (R : Bool) (hR : R = true ↔ ∃ x, Good cs x ∧ x.1 ≠ x.2) : lstB [] cs = (cs.all okCg && !R) := by
  have h := lstB_from cs cs.length 0 (by omega)
  rw [List.take_zero, List.drop_zero] at h
  rw [Bool.eq_iff_iff, h, Bool.and_eq_true, List.all_eq_true, Bool.not_eq_true', Bool.eq_false_iff, Ne, hR]
  constructor
  · intro H
    refine ⟨fun v hv => ?_, ?_⟩
    · obtain ⟨i, hi, rfl⟩ := List.mem_iff_getElem.1 hv
      exact (H i hi (Nat.zero_le _)).1
    · rintro ⟨⟨i, j⟩, ⟨hi, hj, hs⟩, hne⟩
      dsimp only at hi hj hs hne
      rcases Nat.lt_or_gt_of_ne hne with hh | hh
      · rw [(H j hj (Nat.zero_le _)).2 i hh] at hs; cases hs
      · rw [sameD_comm, (H i hi (Nat.zero_le _)).2 j hh] at hs; cases hs
  · rintro ⟨H1, H2⟩ i hi _
    refine ⟨H1 _ (List.getElem_mem _), fun j hj => ?_⟩
    rw [Bool.eq_false_iff]
    intro hh
    exact H2 ⟨(j, i), ⟨by show j < cs.length; omega, hi, hh⟩, by show j ≠ i; omega⟩

end Go.Proofs.YtcggkeleaepebaaGreatDoor.Ce

/- Whether a committed one is right: the program's answer. -/
namespace Go.Proofs.YtcggkeleaepebaaGreatDoor.Ce
open Go.RowKit Tr Co Rea
set_option linter.unusedVariables false

theorem doneB_eq (sn at_ : Int) (rs : List Rdg) (cs : List Cgr) (R : Bool) (hR : R = true ↔ ∃ x, Good cs x ∧ x.1 ≠ x.2) :
    doneB sn at_ rs cs = (decide (0 ≤ sn) && (decide (sn < at_) && (timeB at_ && (decide (rs.length ≤ 20) && (decide (cs.length ≤ 60) && ((rs.all okR && cs.all okCg) && !R)))))) := by
  unfold doneB listsB timeB
  rw [lstB_iff cs R hR]
  generalize rs.all okR = a
  generalize cs.all okCg = b
  by_cases h1 : 0 ≤ sn <;> by_cases h2 : sn < at_ <;> by_cases h3 : at_ ≤ 10000
  · have e1 : (0 ≤ sn ∧ sn ≤ 10000) := ⟨h1, by omega⟩
    have e2 : (sn + 1 ≤ at_ ∧ at_ ≤ 10000) := ⟨by omega, h3⟩
    have e3 : (1 ≤ at_ ∧ at_ ≤ 10000) := ⟨by omega, h3⟩
    rw [decide_eq_true e1, decide_eq_true e2, decide_eq_true e3, decide_eq_true h1, decide_eq_true h2]
    cases a <;> cases b <;> cases R <;> cases decide (rs.length ≤ 20) <;> cases decide (cs.length ≤ 60) <;> rfl
  all_goals
    have e : (decide (0 ≤ sn ∧ sn ≤ 10000) && decide (sn + 1 ≤ at_ ∧ at_ ≤ 10000)) = false := by
      rw [Bool.and_eq_false_iff, decide_eq_false_iff_not, decide_eq_false_iff_not]; omega
    have e' : (decide (0 ≤ sn) && (decide (sn < at_) && decide (1 ≤ at_ ∧ at_ ≤ 10000))) = false := by
      rw [Bool.and_eq_false_iff, Bool.and_eq_false_iff, decide_eq_false_iff_not, decide_eq_false_iff_not, decide_eq_false_iff_not]; omega
    rw [← Bool.and_assoc, e, Bool.false_and]
    symm
    rw [← Bool.and_assoc (decide (sn < at_)), ← Bool.and_assoc (decide (0 ≤ sn)), e', Bool.false_and]

set_option maxRecDepth 8000 in
set_option maxHeartbeats 4000000 in
theorem doneOK_any (sn at_ : Int) (g1 g2 c1 c2 b1 : Nat) (di do_ : Bool) (rs : List Rdg) (cs : List Cgr) (w : World) (h1 : MadeRd w b1 g1 rs) (h2 : ReadCg w g2 cs) (hl1 : rs.length ≤ 1048576) (hl2 : cs.length ≤ 1048576) (hs1 : ∀ v ∈ rs, szRd v) (hs2 : ∀ v ∈ cs, szCg v) :
    Calls Tryz.prog 27 #[.agg #[.int .i64 sn, .int .i64 at_, .slice (some ⟨g1, 0, none⟩) rs.length c1, .slice (some ⟨g2, 0, none⟩) cs.length c2, .bool di, .bool do_]] w fun e w' => e = .returned (.bool (doneB sn at_ rs cs)) ∧ Below w.heap.size w w' := by
  have hb0 : Below w.heap.size w (w.alloc (.cells #[.int .i64 sn, .int .i64 at_, .slice (some ⟨g1, 0, none⟩) rs.length c1, .slice (some ⟨g2, 0, none⟩) cs.length c2, .bool di, .bool do_] 36)) := (Below.refl _ _).alloc (Nat.le_refl _) _
  have A0 : (w.alloc (.cells #[.int .i64 sn, .int .i64 at_, .slice (some ⟨g1, 0, none⟩) rs.length c1, .slice (some ⟨g2, 0, none⟩) cs.length c2, .bool di, .bool do_] 36)).cell? ⟨w.heap.size, 3, none⟩ = some (.slice (some ⟨g2, 0, none⟩) cs.length c2) := by simp [go_sem]
  have hl0 : w.heap.size < (w.alloc (.cells #[.int .i64 sn, .int .i64 at_, .slice (some ⟨g1, 0, none⟩) rs.length c1, .slice (some ⟨g2, 0, none⟩) cs.length c2, .bool di, .bool do_] 36)).heap.size := by simp
  have HA : Hid (Calls _ _ _ _ _) := areRight_any g1 g2 c1 c2 b1 rs cs (w.alloc (.cells #[.int .i64 sn, .int .i64 at_, .slice (some ⟨g1, 0, none⟩) rs.length c1, .slice (some ⟨g2, 0, none⟩) cs.length c2, .bool di, .bool do_] 36)) (h1.next hb0) (h2.next hb0) hl1 hl2 hs1 hs2
  have HW : Hid (∀ W : World, Below w.heap.size w W → Calls _ _ _ W _) := fun W hW => twice_any g2 c2 cs W (h2.next hW) hl2
  have HT : Hid (∀ W : World, Calls _ _ _ W _) := fun W => timeOK_any at_ W
  obtain ⟨R0, hR0⟩ : ∃ R0 : Bool, (R0 = true ↔ ∃ x, Good cs x ∧ x.1 ≠ x.2) := by
    rcases Classical.em (∃ x, Good cs x ∧ x.1 ≠ x.2) with h | h
    · exact ⟨true, fun _ => h, fun _ => rfl⟩
    · exact ⟨false, fun hh => (by cases hh), fun hh => absurd hh h⟩
  have HR0 : Hid (R0 = true ↔ ∃ x, Good cs x ∧ x.1 ≠ x.2) := hR0
  rw [doneB_eq sn at_ rs cs R0 hR0]
  clear h1 h2 hs1 hs2 hR0
  by_cases t1 : 0 ≤ sn
  · rw [decide_eq_true t1]
    by_cases t2 : sn < at_
    · rw [decide_eq_true t2]
      cases t3 : timeB at_
      · rw [t3] at HT
        clear HA HW t3
        go_enter Tryz.func27, Tryz.ntmps27
        go_wp2_with fail
        refine (HT.out _).mono ?_
        rintro e w1 ⟨rfl, rfl⟩
        go_wp2_with fail
        go_ret
        exact ⟨rfl, hb0⟩
      · rw [t3] at HT
        clear t3
        by_cases t4 : rs.length ≤ 20
        · rw [decide_eq_true t4]
          have u4 : (rs.length : Int) ≤ 20 := by omega
          by_cases t5 : cs.length ≤ 60
          · rw [decide_eq_true t5]
            have u5 : (cs.length : Int) ≤ 60 := by omega
            cases t6 : (rs.all okR && cs.all okCg)
            · rw [t6] at HA
              clear HW t6
              go_enter Tryz.func27, Tryz.ntmps27
              go_wp2_with fail
              refine (HT.out _).mono ?_
              rintro e w1 ⟨rfl, rfl⟩
              go_wp2_with fail
              refine HA.out.mono ?_
              rintro e w1 ⟨rfl, hb⟩
              have hbw := hb0.trans (hb.mono hb0.size)
              clear hb
              go_wp2_with fail
              go_ret
              exact ⟨rfl, hbw⟩
            · rw [t6] at HA
              clear t6
              go_enter Tryz.func27, Tryz.ntmps27
              go_wp2_with fail
              refine (HT.out _).mono ?_
              rintro e w1 ⟨rfl, rfl⟩
              go_wp2_with fail
              generalize w.alloc _ = W0 at hb0 A0 hl0 HA ⊢
              refine HA.out.mono ?_
              rintro e w1 ⟨rfl, hb⟩
              have A1 := (hb.cell (p := ⟨w.heap.size, 3, none⟩) hl0).trans A0
              have hbw := hb0.trans (hb.mono hb0.size)
              clear hb
              go_wp2_with fail
              refine (HW.out _ hbw).mono ?_
              rintro e w2 ⟨⟨R1, rfl, hR1⟩, hb⟩
              have hbw2 := hbw.trans (hb.mono hbw.size)
              obtain rfl : R1 = R0 := by rw [Bool.eq_iff_iff, hR1, HR0.out]
              clear hb hR1
              go_wp2_with fail
              go_ret
              exact ⟨ret_bool (by simp), hbw2⟩
          · rw [decide_eq_false t5]
            have u5 : ¬ (cs.length : Int) ≤ 60 := by omega
            clear HA HW
            go_enter Tryz.func27, Tryz.ntmps27
            go_wp2_with fail
            refine (HT.out _).mono ?_
            rintro e w1 ⟨rfl, rfl⟩
            go_wp2_with fail
            go_ret
            exact ⟨rfl, hb0⟩
        · rw [decide_eq_false t4]
          have u4 : ¬ (rs.length : Int) ≤ 20 := by omega
          clear HA HW
          go_enter Tryz.func27, Tryz.ntmps27
          go_wp2_with fail
          refine (HT.out _).mono ?_
          rintro e w1 ⟨rfl, rfl⟩
          go_wp2_with fail
          go_ret
          exact ⟨rfl, hb0⟩
    · rw [decide_eq_false t2]
      clear HA HW HT
      go_enter Tryz.func27, Tryz.ntmps27
      go_wp2_with fail
      go_ret
      exact ⟨rfl, hb0⟩
  · rw [decide_eq_false t1]
    clear HA HW HT
    go_enter Tryz.func27, Tryz.ntmps27
    go_wp2_with fail
    go_ret
    exact ⟨rfl, hb0⟩

end Go.Proofs.YtcggkeleaepebaaGreatDoor.Ce

/- The laws' own helpers on committed ones: their size, and that one equals itself. -/
namespace Go.Proofs.YtcggkeleaepebaaGreatDoor.Ce
open Go.RowKit Tr Co Rea
set_option linter.unusedVariables false

/-- A block of six cells. -/
structure BxDn (w W : World) (a b c d e f : Value) : Prop where
  bel : Below w.heap.size w W
  lt : w.heap.size < W.heap.size
  c0 : W.cell? ⟨w.heap.size, 0, none⟩ = some a
  c1 : W.cell? ⟨w.heap.size, 1, none⟩ = some b
  c2 : W.cell? ⟨w.heap.size, 2, none⟩ = some c
  c3 : W.cell? ⟨w.heap.size, 3, none⟩ = some d
  c4 : W.cell? ⟨w.heap.size, 4, none⟩ = some e
  c5 : W.cell? ⟨w.heap.size, 5, none⟩ = some f
theorem BxDn.start (w : World) (a b c d e f : Value) (T : TypeId) : BxDn w (w.alloc (.cells #[a, b, c, d, e, f] T)) a b c d e f :=
  ⟨(Below.refl _ _).alloc (Nat.le_refl _) _, by simp, by simp [go_sem], by simp [go_sem], by simp [go_sem], by simp [go_sem], by simp [go_sem], by simp [go_sem]⟩
theorem BxDn.step {w W W' : World} {a b c d e f : Value} (h : BxDn w W a b c d e f) (hb : Below W.heap.size W W') : BxDn w W' a b c d e f :=
  ⟨h.bel.trans (hb.mono h.bel.size), Nat.lt_of_lt_of_le h.lt hb.size, (hb.cell h.lt).trans h.c0, (hb.cell h.lt).trans h.c1, (hb.cell h.lt).trans h.c2, (hb.cell h.lt).trans h.c3, (hb.cell h.lt).trans h.c4, (hb.cell h.lt).trans h.c5⟩
/-- What sizes a committed one has when it is small enough. -/
structure SzDn (rs : List Rdg) (cs : List Cgr) : Prop where
  r0 : rs.length ≤ 1048576
  r1 : ∀ v ∈ rs, szRd v
  s0 : cs.length ≤ 1048576
  s1 : ∀ v ∈ cs, szCg v
structure MaxDn (rs : List Rdg) (cs : List Cgr) : Prop where
  r0 : rs.length ≤ maxLen
  r1 : ∀ v ∈ rs, maxRd v
  s0 : cs.length ≤ maxLen
  s1 : ∀ v ∈ cs, maxCg v

set_option maxRecDepth 4000 in
set_option maxHeartbeats 2000000 in
theorem szDone_any (sn at_ : Int) (p1 p2 : Option Addr) (c1 c2 : Nat) (di do_ : Bool) (rs : List Rdg) (cs : List Cgr) (c0 : Int) (w : World) (h1 : InRd w p1 rs) (h2 : InCg w p2 cs) (hm : MaxDn rs cs) (hc0 : 0 ≤ c0) (hc1 : c0 ≤ 1048576) :
    Calls Tryz.prog 6 #[.agg #[.int .i64 sn, .int .i64 at_, .slice p1 rs.length c1, .slice p2 cs.length c2, .bool di, .bool do_], .int .i64 c0] w fun e w' => (∃ r : Int, e = .returned (.int .i64 r) ∧ (r < 0 ∨ (0 ≤ r ∧ r ≤ c0 ∧ SzDn rs cs))) ∧ Below w.heap.size w w' := by
  have X0 := BxDn.start w (.int .i64 sn) (.int .i64 at_) (.slice p1 rs.length c1) (.slice p2 cs.length c2) (.bool di) (.bool do_) 26
  have HI2 : Hid (InCg _ _ _) := h2
  have HM : Hid (MaxDn rs cs) := hm
  have HA : Hid (Calls _ _ _ _ _) := szReadS_any p1 c1 rs c0 _ (h1.step X0.bel) hm.r0 hm.r1 hc0 hc1
  clear h1 h2 hm
  go_enter Tryz.func6, Tryz.ntmps6
  go_wp2_with fail
  refine HA.out.mono ?_
  rintro e w1 ⟨⟨r1, rfl, hr1⟩, hb⟩
  have X1 := X0.step hb
  have k3 := X1.c3
  have B1 := X1.bel
  clear hb X0 HA
  rcases hr1 with hneg | ⟨q0, q1, q2, q3⟩
  · go_wp2_with fail
    go_ret
    exact ⟨⟨-1, rfl, .inl (by omega)⟩, B1⟩
  have hn1 : ¬ r1 < 0 := by omega
  have HP : Hid (∀ v ∈ rs, szRd v) := q3
  clear q3
  go_wp2_with fail
  refine (szChangeS_any p2 c2 cs r1 _ (HI2.out.step X1.bel) HM.out.s0 HM.out.s1 q0 (by omega)).mono ?_
  rintro e w2 ⟨⟨r2, rfl, hr2⟩, hb⟩
  have B2 := (X1.step hb).bel
  clear hb X1
  rcases hr2 with hneg | ⟨s0, s1, s2, s3⟩
  · go_wp2_with fail
    go_ret
    exact ⟨⟨-1, rfl, .inl (by omega)⟩, B2⟩
  have hn2 : ¬ r2 < 0 := by omega
  have HS : Hid (∀ v ∈ cs, szCg v) := s3
  clear s3
  go_wp2_with fail
  go_ret
  exact ⟨⟨r2, rfl, .inr ⟨by omega, by omega, ⟨q2, HP.out, s2, HS.out⟩⟩⟩, B2⟩

end Go.Proofs.YtcggkeleaepebaaGreatDoor.Ce

/- The laws' own helpers on committed ones: one made, and that one equals itself. -/
namespace Go.Proofs.YtcggkeleaepebaaGreatDoor.Ce
open Go.RowKit Tr Co Rea
set_option linter.unusedVariables false

theorem sixDn {W : World} {b : Nat} {T : TypeId} {v0 v1 v2 v3 v4 v5 : Value} (h : W.heap[b]? = some (.cells #[v0, v1, v2, v3, v4, v5] T)) :
    W.cell? ⟨b, 0, none⟩ = some v0 ∧ W.cell? ⟨b, 1, none⟩ = some v1 ∧ W.cell? ⟨b, 2, none⟩ = some v2 ∧ W.cell? ⟨b, 3, none⟩ = some v3 ∧ W.cell? ⟨b, 4, none⟩ = some v4 ∧ W.cell? ⟨b, 5, none⟩ = some v5 := by
  refine ⟨?_, ?_, ?_, ?_, ?_, ?_⟩ <;> simp [World.cell?, h]
theorem softDn {W : World} {b : Nat} {T : TypeId} {vs : Array Value} (h : W.heap[b]? = some (.cells vs T)) (o : Nat) : W.frozen? ⟨b, o, none⟩ = false := by simp [World.frozen?, h]
/-- The three blocks of toDone: what came in, the answer, what is made. -/
structure MkDn (w W : World) (as_ os : Array Value) (T U : TypeId) : Prop where
  bel : Below w.heap.size w W
  lt : w.heap.size + 2 < W.heap.size
  pb : W.heap[w.heap.size]? = some (.cells as_ T)
  rb : W.heap[w.heap.size + 1]? = some (.cells #[.int .i64 0, .int .i64 0, .slice none 0 0, .slice none 0 0, .bool false, .bool false] U)
  ob : W.heap[w.heap.size + 2]? = some (.cells os U)
theorem MkDn.next {w W W' : World} {as_ os : Array Value} {T U : TypeId} (h : MkDn w W as_ os T U) (hb : Below W.heap.size W W') : MkDn w W' as_ os T U := by
  have := h.lt
  exact ⟨h.bel.trans (hb.mono h.bel.size), Nat.lt_of_lt_of_le h.lt hb.size, (hb.block _ (by omega)).trans h.pb, (hb.block _ (by omega)).trans h.rb, (hb.block _ h.lt).trans h.ob⟩
theorem MkDn.set {w W : World} {as_ os : Array Value} {T U : TypeId} (h : MkDn w W as_ os T U) (o : Nat) (v : Value) : MkDn w (W.setCell ⟨w.heap.size + 2, o, none⟩ v) as_ (os.setIfInBounds o v) T U := by
  have := h.lt
  have hg : W.grownBy (W.setCell ⟨w.heap.size + 2, o, none⟩ v) (some (w.heap.size + 2)) := grown_setC
  refine ⟨h.bel.setCell (by show w.heap.size ≤ w.heap.size + 2; omega) _, by simpa using h.lt, (hg.block _ (by omega) (fun e => by injection e; omega)).trans h.pb, (hg.block _ (by omega) (fun e => by injection e; omega)).trans h.rb, ?_⟩
  simp [World.setCell, Array.getElem?_modify, h.ob]
theorem MkDn.start (w : World) (a0 a1 a2 a3 a4 a5 : Value) (T U : TypeId) : MkDn w (((w.alloc (.cells #[a0, a1, a2, a3, a4, a5] T)).alloc (.cells #[.int .i64 0, .int .i64 0, .slice none 0 0, .slice none 0 0, .bool false, .bool false] U)).alloc (.cells #[.int .i64 0, .int .i64 0, .slice none 0 0, .slice none 0 0, .bool false, .bool false] U)) #[a0, a1, a2, a3, a4, a5] #[.int .i64 0, .int .i64 0, .slice none 0 0, .slice none 0 0, .bool false, .bool false] T U := by
  obtain ⟨W1, h1⟩ : ∃ W, W = w.alloc (.cells #[a0, a1, a2, a3, a4, a5] T) := ⟨_, rfl⟩
  obtain ⟨O, hO⟩ : ∃ O, O = Obj.cells #[.int .i64 0, .int .i64 0, .slice none 0 0, .slice none 0 0, .bool false, .bool false] U := ⟨_, rfl⟩
  have s1 : W1.heap.size = w.heap.size + 1 := by rw [h1]; simp
  have s2 : (W1.alloc O).heap.size = w.heap.size + 2 := by simp [s1]
  have b2 : Below W1.heap.size W1 (W1.alloc O) := (Below.refl _ _).alloc (Nat.le_refl _) _
  have b3 : Below (W1.alloc O).heap.size (W1.alloc O) ((W1.alloc O).alloc O) := (Below.refl _ _).alloc (Nat.le_refl _) _
  have n1 : W1.heap[w.heap.size]? = some (.cells #[a0, a1, a2, a3, a4, a5] T) := by rw [h1]; exact heap_alloc_new w _
  have n2 : (W1.alloc O).heap[w.heap.size + 1]? = some O := by rw [← s1]; exact heap_alloc_new W1 _
  have n3 : ((W1.alloc O).alloc O).heap[w.heap.size + 2]? = some O := by rw [← s2]; exact heap_alloc_new _ _
  have bw : Below w.heap.size w W1 := by rw [h1]; exact (Below.refl _ _).alloc (Nat.le_refl _) _
  rw [← h1, ← hO]
  refine ⟨(bw.trans (b2.mono (by omega))).trans (b3.mono (by omega)), by simp [s1], ?_, ?_, ?_⟩
  · exact (b3.block _ (by omega)).trans ((b2.block _ (by omega)).trans n1)
  · rw [← hO]; exact (b3.block _ (by omega)).trans n2
  · rw [← hO]; exact n3

set_option maxRecDepth 4000 in
set_option maxHeartbeats 2000000 in
theorem eqDone_same (sn at_ : Int) (g1 g2 k1 k2 c1 c2 d1 d2 b1 b2 : Nat) (di do_ : Bool) (rs : List Rdg) (cs : List Cgr) (w : World) (h1 : MadeRd w b1 g1 rs) (h2 : MadeRd w b2 k1 rs) (h3 : InCg w (some ⟨g2, 0, none⟩) cs) (h4 : InCg w (some ⟨k2, 0, none⟩) cs) (hz : SzDn rs cs) :
    Calls Tryz.prog 12 #[.agg #[.int .i64 sn, .int .i64 at_, .slice (some ⟨g1, 0, none⟩) rs.length c1, .slice (some ⟨g2, 0, none⟩) cs.length c2, .bool di, .bool do_], .agg #[.int .i64 sn, .int .i64 at_, .slice (some ⟨k1, 0, none⟩) rs.length d1, .slice (some ⟨k2, 0, none⟩) cs.length d2, .bool di, .bool do_]] w fun e w' => e = .returned (.bool true) ∧ Below w.heap.size w w' := by
  have X0 := (BxDn.start w (.int .i64 sn) (.int .i64 at_) (.slice (some ⟨g1, 0, none⟩) rs.length c1) (.slice (some ⟨g2, 0, none⟩) cs.length c2) (.bool di) (.bool do_) 36).step ((Below.refl _ _).alloc (Nat.le_refl _) (.cells #[.int .i64 sn, .int .i64 at_, .slice (some ⟨k1, 0, none⟩) rs.length d1, .slice (some ⟨k2, 0, none⟩) cs.length d2, .bool di, .bool do_] 36))
  have Y0 := BxDn.start (w.alloc (.cells #[.int .i64 sn, .int .i64 at_, .slice (some ⟨g1, 0, none⟩) rs.length c1, .slice (some ⟨g2, 0, none⟩) cs.length c2, .bool di, .bool do_] 36)) (.int .i64 sn) (.int .i64 at_) (.slice (some ⟨k1, 0, none⟩) rs.length d1) (.slice (some ⟨k2, 0, none⟩) cs.length d2) (.bool di) (.bool do_) 36
  have HA : Hid (∀ W : World, Below w.heap.size w W → Calls _ _ _ W _) := fun W hW => eqReadS_same g1 k1 c1 d1 b1 b2 rs W (h1.next hW) (h2.next hW) hz.r0 hz.r1
  have HB : Hid (∀ W : World, Below w.heap.size w W → Calls _ _ _ W _) := fun W hW => eqChangeS_same (some ⟨g2, 0, none⟩) (some ⟨k2, 0, none⟩) c2 d2 cs W (h3.step hW) (h4.step hW) hz.s0
  clear h1 h2 h3 h4 hz
  go_enter Tryz.func12, Tryz.ntmps12
  go_wp2_with fail
  refine (HA.out _ X0.bel).mono ?_
  rintro e w1 ⟨rfl, hb⟩
  have X1 := X0.step hb
  have Y1 := Y0.step hb
  clear hb X0 Y0 HA
  have x3 := X1.c3
  have y3 := Y1.c3
  rw [World.size_alloc] at y3
  go_wp2_with fail
  refine (HB.out _ X1.bel).mono ?_
  rintro e w2 ⟨rfl, hb⟩
  have X2 := X1.step hb
  have Y2 := Y1.step hb
  clear hb X1 Y1 HB x3 y3
  have x4 := X2.c4
  have y4 := Y2.c4
  have x5 := X2.c5
  have y5 := Y2.c5
  rw [World.size_alloc] at y4 y5
  have hbw := X2.bel
  clear X2 Y2
  cases di <;> cases do_
  all_goals
    go_wp2_with fail
    go_ret
    exact ⟨rfl, hbw⟩
theorem readCg_set {w : World} {g b o : Nat} {v : Value} {l : List Cgr} (h : ReadCg w g l) (hne : g ≠ b) : ReadCg (w.setCell ⟨b, o, none⟩ v) g l := by
  have hg : w.grownBy (w.setCell ⟨b, o, none⟩ v) (some b) := grown_setC
  exact h.grown hg (fun e => hne (by injection e))
theorem MkDn.start2 (w : World) (a0 a1 a2 a3 a4 a5 o0 o1 o2 o3 o4 o5 : Value) (T U : TypeId) : MkDn w (((w.alloc (.cells #[a0, a1, a2, a3, a4, a5] T)).alloc (.cells #[.int .i64 0, .int .i64 0, .slice none 0 0, .slice none 0 0, .bool false, .bool false] U)).alloc (.cells #[o0, o1, o2, o3, o4, o5] U)) #[a0, a1, a2, a3, a4, a5] #[o0, o1, o2, o3, o4, o5] T U := by
  obtain ⟨W1, h1⟩ : ∃ W, W = w.alloc (.cells #[a0, a1, a2, a3, a4, a5] T) := ⟨_, rfl⟩
  obtain ⟨O, hO⟩ : ∃ O, O = Obj.cells #[.int .i64 0, .int .i64 0, .slice none 0 0, .slice none 0 0, .bool false, .bool false] U := ⟨_, rfl⟩
  obtain ⟨O', hO'⟩ : ∃ O, O = Obj.cells #[o0, o1, o2, o3, o4, o5] U := ⟨_, rfl⟩
  have s1 : W1.heap.size = w.heap.size + 1 := by rw [h1]; simp
  have s2 : (W1.alloc O).heap.size = w.heap.size + 2 := by simp [s1]
  have b2 : Below W1.heap.size W1 (W1.alloc O) := (Below.refl _ _).alloc (Nat.le_refl _) _
  have b3 : Below (W1.alloc O).heap.size (W1.alloc O) ((W1.alloc O).alloc O') := (Below.refl _ _).alloc (Nat.le_refl _) _
  have n1 : W1.heap[w.heap.size]? = some (.cells #[a0, a1, a2, a3, a4, a5] T) := by rw [h1]; exact heap_alloc_new w _
  have n2 : (W1.alloc O).heap[w.heap.size + 1]? = some O := by rw [← s1]; exact heap_alloc_new W1 _
  have n3 : ((W1.alloc O).alloc O').heap[w.heap.size + 2]? = some O' := by rw [← s2]; exact heap_alloc_new _ _
  have bw : Below w.heap.size w W1 := by rw [h1]; exact (Below.refl _ _).alloc (Nat.le_refl _) _
  rw [← h1, ← hO, ← hO']
  refine ⟨(bw.trans (b2.mono (by omega))).trans (b3.mono (by omega)), by simp [s1], ?_, ?_, ?_⟩
  · exact (b3.block _ (by omega)).trans ((b2.block _ (by omega)).trans n1)
  · rw [← hO]; exact (b3.block _ (by omega)).trans n2
  · rw [← hO']; exact n3

set_option maxRecDepth 4000 in
set_option maxHeartbeats 4000000 in
theorem toDone_any (sn at_ : Int) (p1 p2 : Option Addr) (c1 c2 : Nat) (di do_ : Bool) (rs : List Rdg) (cs : List Cgr) (w : World) (h1 : InRd w p1 rs) (h2 : InCg w p2 cs) (hz : SzDn rs cs) :
    Calls Tryz.prog 9 #[.agg #[.int .i64 sn, .int .i64 at_, .slice p1 rs.length c1, .slice p2 cs.length c2, .bool di, .bool do_]] w fun e w' => (∃ g h, e = .returned (.agg #[.int .i64 sn, .int .i64 at_, .slice (some ⟨g, 0, none⟩) rs.length rs.length, .slice (some ⟨h, 0, none⟩) cs.length cs.length, .bool di, .bool do_]) ∧ MadeRd w' w.heap.size g rs ∧ ReadCg w' h cs ∧ w.heap.size ≤ h) ∧ Below w.heap.size w w' := by
  have M0 := MkDn.start2 w (.int .i64 sn) (.int .i64 at_) (.slice p1 rs.length c1) (.slice p2 cs.length c2) (.bool di) (.bool do_) (.int .i64 sn) (.int .i64 at_) (.slice none 0 0) (.slice none 0 0) (.bool false) (.bool false) 26 36
  have HI1 : Hid (InRd _ _ _) := h1
  have HI2 : Hid (InCg _ _ _) := h2
  have HZ : Hid (SzDn _ _) := hz
  clear h1 h2 hz
  go_enter Tryz.func9, Tryz.ntmps9
  go_wp2_with fail
  generalize ((w.alloc _).alloc _).alloc _ = W0 at M0 ⊢
  have hw0 := M0.lt
  refine (toReadS_any p1 c1 rs _ (HI1.out.step M0.bel) HZ.out.r0 HZ.out.r1).mono ?_
  rintro e w1 ⟨⟨g, rfl, hM1⟩, hb⟩
  have M1 := M0.next hb
  have HM1 : Hid (MadeRd _ _ _ _) := hM1.mono (base' := w.heap.size + 3) (by omega)
  obtain ⟨q0, q1, q2, q3, q4, q5⟩ := sixDn M1.pb
  obtain ⟨o0, o1, o2, o3, o4, o5⟩ := sixDn M1.ob
  have z2 := softDn M1.ob 2
  have hlt := M1.lt
  have hlp : w.heap.size < w1.heap.size := by omega
  have M1' := M1.set 2 (.slice (some ⟨g, 0, none⟩) rs.length rs.length)
  have HM1' : Hid (MadeRd _ _ _ _) := HM1.out.set (b := w.heap.size + 2) (o := 2) (v := .slice (some ⟨g, 0, none⟩) rs.length rs.length) (by omega)
  clear hb M0 hM1 M1 HM1 hw0
  go_wp2_with fail
  refine (toChangeS_any p2 c2 cs _ (HI2.out.step M1'.bel) HZ.out.s0).mono ?_
  rintro e w2 ⟨⟨h, rfl, hO2⟩, hb⟩
  have M2 := M1'.next hb
  have HM2 : Hid (MadeRd _ _ _ _) := HM1'.out.next hb
  have HR2 : Hid (ReadCg w2 h cs) := ReadCg.of_own hO2
  have hge : w.heap.size + 3 ≤ h := by have h0 := (hO2.lt h rfl).1; have := M1'.lt; omega
  clear hb hO2 HM1' M1' q0 q1 q2 q3 q4 q5 o0 o1 o2 o3 o4 o5 z2 hlt hlp
  obtain ⟨q0, q1, q2, q3, q4, q5⟩ := sixDn M2.pb
  obtain ⟨o0, o1, o2, o3, o4, o5⟩ := sixDn (show w2.heap[w.heap.size + 2]? = some (.cells #[.int .i64 sn, .int .i64 at_, .slice (some ⟨g, 0, none⟩) rs.length rs.length, .slice none 0 0, .bool false, .bool false] _) from M2.ob)
  obtain ⟨r0, r1, r2, r3, r4, r5⟩ := sixDn M2.rb
  have y0 := softDn M2.rb 0
  have y1 := softDn M2.rb 1
  have y2 := softDn M2.rb 2
  have y3 := softDn M2.rb 3
  have y4 := softDn M2.rb 4
  have y5 := softDn M2.rb 5
  have z0 := softDn M2.ob 0
  have z1 := softDn M2.ob 1
  have z2 := softDn M2.ob 2
  have z3 := softDn M2.ob 3
  have z4 := softDn M2.ob 4
  have z5 := softDn M2.ob 5
  have hlt := M2.lt
  have hlp : w.heap.size < w2.heap.size := by omega
  have hbw := M2.bel
  clear M2
  go_wp2_with fail
  refine bodyPost_ret (v := .agg #[.int .i64 sn, .int .i64 at_, .slice (some ⟨g, 0, none⟩) rs.length rs.length, .slice (some ⟨h, 0, none⟩) cs.length cs.length, .bool di, .bool do_]) (by simp [results, Tryz.results9, go_sem, *]) rfl ⟨⟨g, h, rfl, ?_, ?_, by omega⟩, ?_⟩
  · refine MadeRd.mono (base := w.heap.size + 3) ?_ (by omega)
    repeat (first | (with_reducible exact HM2.out) | (with_reducible refine MadeRd.set ?_ (by omega)))
  · repeat (first | (with_reducible exact HR2.out) | (with_reducible refine readCg_set ?_ (by omega)))
  · (repeat (first | (with_reducible exact Below.refl _ _) | (with_reducible assumption) | (with_reducible apply below_drewN) | (with_reducible apply Below.drew) | ((with_reducible refine Below.setCell ?_ ?_ _); rotate_left; focus (first | (simp; done) | (simp; omega) | omega)) | ((with_reducible refine Below.alloc ?_ ?_ _); rotate_left; focus (first | (simp; done) | (simp; omega) | omega))))

end Go.Proofs.YtcggkeleaepebaaGreatDoor.Ce

/- A committed one that comes in, opened: its reads and its changes, at their places. -/
namespace Go.Proofs.YtcggkeleaepebaaGreatDoor.Ce
open Go.RowKit Go.Joins Go.Deep Go.ChangeShapes Go.WideShapes Go.ChangeAt Tr Co Rea
set_option linter.unusedVariables false

instance : Inhabited Cgr := ⟨⟨⟨em, 0, false, ⟨0, 0, em⟩⟩, ⟨0, 0, em⟩, false⟩⟩
instance : Inhabited Rdg := ⟨⟨em, []⟩⟩
theorem cellsCg : Tryz.prog.cellsOf 71 = 10 := by kernel_rfl
theorem cellsRr : Tryz.prog.cellsOf 64 = 2 := by kernel_rfl
theorem cellsDn : Tryz.prog.cellsOf 26 = 6 := by kernel_rfl
theorem cellsRw : Tryz.prog.cellsOf 23 = 1 := by kernel_rfl
theorem cellsCw : Tryz.prog.cellsOf 24 = 1 := by kernel_rfl
set_option maxRecDepth 100000 in
theorem open_change_cells {H : Type} {enc : TypeId × Value → H} {w : World} {base : Nat} {spare : Nat → Bool} {held : Bool} {fuel : Nat} {c0 c1 c2 c3 c4 c5 c6 c7 c8 c9 : Value} {x : DataW H × List MemPlace}
    (h : DataW.trod enc Tryz.prog w base spare held fuel 71 [c0, c1, c2, c3, c4, c5, c6, c7, c8, c9] = some x) :
    ∃ t : Cgr, c0 = .string t.wr.coll ∧ c1 = .int .i64 t.wr.id ∧ c2 = .bool t.wr.gone ∧ c3 = .int .i64 t.wr.doc.k ∧ c4 = .int .i64 t.wr.doc.n ∧ c5 = .string t.wr.doc.t ∧ c6 = .int .i64 t.bef.k ∧ c7 = .int .i64 t.bef.n ∧ c8 = .string t.bef.t ∧ c9 = .bool t.was ∧ maxCg t := by
  obtain ⟨y0, y1, y2, m, _, _, t0, t1, t2⟩ := trod_struct3 Tryz.underlying71 h
  obtain ⟨r0, r1, r2, r3, m1, q0, q1, q2, q3⟩ := trod_struct4w Tryz.underlying69 t0
  obtain ⟨z0, e0, _, h0⟩ := DataW.trod_string Tryz.underlying9 q0
  obtain ⟨z1, e1, _, _⟩ := DataW.trod_int Tryz.underlying3 q1
  obtain ⟨z2, e2, _⟩ := DataW.trod_bool Tryz.underlying4 q2
  obtain ⟨u0, u1, u2, m2, _, _, s0, s1, s2⟩ := trod_struct3 Tryz.underlying67 q3
  obtain ⟨z3, e3, _, _⟩ := DataW.trod_int Tryz.underlying3 s0
  obtain ⟨z4, e4, _, _⟩ := DataW.trod_int Tryz.underlying3 s1
  obtain ⟨z5, e5, _, h5⟩ := DataW.trod_string Tryz.underlying9 s2
  obtain ⟨v0, v1, v2, m3, _, _, o0, o1, o2⟩ := trod_struct3 Tryz.underlying67 t1
  obtain ⟨z6, e6, _, _⟩ := DataW.trod_int Tryz.underlying3 o0
  obtain ⟨z7, e7, _, _⟩ := DataW.trod_int Tryz.underlying3 o1
  obtain ⟨z8, e8, _, h8⟩ := DataW.trod_string Tryz.underlying9 o2
  obtain ⟨z9, e9, _⟩ := DataW.trod_bool Tryz.underlying4 t2
  simp [cellsI1, cellsS1, cellsVv, cellsB1, cellsWr] at e0 e1 e2 e3 e4 e5 e6 e7 e8 e9
  exact ⟨⟨⟨z0, z1, z2, ⟨z3, z4, z5⟩⟩, ⟨z6, z7, z8⟩, z9⟩, e0, e1, e2, e3, e4, e5, e6, e7, e8, e9, ⟨h0, h5⟩, h8⟩

set_option maxRecDepth 100000 in
theorem open_changes {H : Type} {enc : TypeId × Value → H} {w : World} {base : Nat} {spare : Nat → Bool} {held : Bool} {fuel : Nat} {cs : List Value} {x : DataW H × List MemPlace}
    (h : DataW.trod enc Tryz.prog w base spare held fuel 24 cs = some x) :
    ∃ (a : Option Addr) (len cap : Nat) (l : List Cgr), cs = [.slice a len cap] ∧ l.length = len ∧ (l.length ≤ maxLen ∧ ∀ v ∈ l, maxCg v) ∧ InCg w a l := by
  rcases open_slice Tryz.underlying24 h with ⟨rfl, _⟩ | ⟨a, len, cap, m, n, D, Pl, rfl, hb, hl, hm, hmm, _, hx⟩
  · exact ⟨none, 0, 0, [], rfl, rfl, ⟨Nat.zero_le _, (fun v hv => by simp at hv)⟩, .inl rfl⟩
  · have hlm : len ≤ m := by rw [hmm]; split <;> omega
    rw [cellsCg] at hx
    obtain ⟨f, hf⟩ := choose_lt (α := Cgr) (n := len) (p := fun i t => w.cell? (a.add (i * 10)) = some (.string t.wr.coll) ∧ w.cell? ((a.add (i * 10)).add 1) = some (.int .i64 t.wr.id) ∧ w.cell? ((a.add (i * 10)).add 2) = some (.bool t.wr.gone) ∧ w.cell? ((a.add (i * 10)).add 3) = some (.int .i64 t.wr.doc.k) ∧ w.cell? ((a.add (i * 10)).add 4) = some (.int .i64 t.wr.doc.n) ∧ w.cell? ((a.add (i * 10)).add 5) = some (.string t.wr.doc.t) ∧ w.cell? ((a.add (i * 10)).add 6) = some (.int .i64 t.bef.k) ∧ w.cell? ((a.add (i * 10)).add 7) = some (.int .i64 t.bef.n) ∧ w.cell? ((a.add (i * 10)).add 8) = some (.string t.bef.t) ∧ w.cell? ((a.add (i * 10)).add 9) = some (.bool t.was) ∧ maxCg t) (fun i hi => by
      obtain ⟨cs', h1, h2⟩ := hx i (by omega)
      obtain ⟨_, hlen, hc⟩ := World.cells?_some h1
      match cs', hlen with
      | [c0, c1, c2, c3, c4, c5, c6, c7, c8, c9], _ =>
        obtain ⟨y, rfl, rfl, rfl, rfl, rfl, rfl, rfl, rfl, rfl, rfl, ht⟩ := open_change_cells h2
        refine ⟨y, ?_, ?_, ?_, ?_, ?_, ?_, ?_, ?_, ?_, ?_, ht⟩
        · have := hc 0 (by omega); simpa [Addr.add] using this
        · exact hc 1 (by omega)
        · exact hc 2 (by omega)
        · exact hc 3 (by omega)
        · exact hc 4 (by omega)
        · exact hc 5 (by omega)
        · exact hc 6 (by omega)
        · exact hc 7 (by omega)
        · exact hc 8 (by omega)
        · exact hc 9 (by omega))
    refine ⟨some a, len, cap, (List.range len).map f, rfl, by simp, ⟨by simp; omega, ?_⟩, ?_⟩
    · intro v hv
      obtain ⟨i, hi, rfl⟩ := List.mem_map.mp hv
      exact (hf i (by simpa using hi)).2.2.2.2.2.2.2.2.2.2
    · by_cases h0 : len = 0
      · exact .inl (by simp [h0])
      · obtain ⟨b, off, spot⟩ := a
        have hc0 := (hf 0 (by omega)).1
        have hspot : spot = none := by simpa [Addr.add] using World.cell?_spot hc0
        subst hspot
        have hlt : b < w.heap.size := by
          rcases Nat.lt_or_ge b w.heap.size with h | h
          · exact h
          · simp [World.cell?, Addr.add, Array.getElem?_eq_none h] at hc0
        refine .inr ⟨b, off, rfl, hlt, fun i hi => ?_⟩
        have hi2 : i < len := by simpa using hi
        have := hf i hi2
        simp only [addO] at this
        simp only [List.getElem_map, List.getElem_range]
        exact ⟨this.1, this.2.1, this.2.2.1, this.2.2.2.1, this.2.2.2.2.1, this.2.2.2.2.2.1, this.2.2.2.2.2.2.1, this.2.2.2.2.2.2.2.1, this.2.2.2.2.2.2.2.2.1, this.2.2.2.2.2.2.2.2.2.1⟩

set_option maxRecDepth 100000 in
theorem open_reads {H : Type} {enc : TypeId × Value → H} {w : World} {base : Nat} {spare : Nat → Bool} {held : Bool} {fuel : Nat} {cs : List Value} {x : DataW H × List MemPlace}
    (h : DataW.trod enc Tryz.prog w base spare held fuel 23 cs = some x) :
    ∃ (a : Option Addr) (len cap : Nat) (f : List Rdg), cs = [.slice a len cap] ∧ f.length = len ∧ f.length ≤ maxLen ∧ (∀ l ∈ f, maxRd l) ∧ InRd w a f := by
  rcases open_slice Tryz.underlying23 h with ⟨rfl, _⟩ | ⟨a, len, cap, m, n, D, Pl, rfl, hb, hl, hm, hmm, _, hx⟩
  · exact ⟨none, 0, 0, [], rfl, rfl, Nat.zero_le _, (fun v hv => by simp at hv), .inl rfl⟩
  · have hlm : len ≤ m := by rw [hmm]; split <;> omega
    rw [cellsRr] at hx
    obtain ⟨f, hf⟩ := choose_lt (α := Rdg) (n := len) (p := fun i l => w.cell? (a.add (i * 2)) = some (.string l.coll) ∧ ∃ p c, w.cell? ((a.add (i * 2)).add 1) = some (.slice p l.f.length c) ∧ maxRd l ∧ InCl w p l.f) (fun i hi => by
      obtain ⟨cs', h1, h2⟩ := hx i (by omega)
      obtain ⟨_, hlen, hc⟩ := World.cells?_some h1
      match cs', hlen with
      | [c0, c1], _ =>
        obtain ⟨y0, y1, n', _, _, t0, t1⟩ := trod_struct2 Tryz.underlying64 h2
        obtain ⟨z0, n2, _, _, u0⟩ := trod_struct1 Tryz.underlying62 t1
        obtain ⟨pf, ln, cf, f, e1, hln, hf1, hf2, hf3⟩ := open_clauses u0
        obtain ⟨hi2, e0, _, hh⟩ := DataW.trod_string Tryz.underlying9 t0
        simp [cellsRF, cellsRT, cellsRC] at e0 e1
        subst e0 e1 hln
        refine ⟨⟨hi2, f⟩, ?_, pf, cf, ?_, ⟨hh, hf1, hf2⟩, hf3⟩
        · have := hc 0 (by omega); simpa [Addr.add] using this
        · exact hc 1 (by omega))
    refine ⟨some a, len, cap, (List.range len).map f, rfl, by simp, by simp; omega, ?_, ?_⟩
    · intro v hv
      obtain ⟨i, hi, rfl⟩ := List.mem_map.mp hv
      obtain ⟨_, p, c, _, h2, _⟩ := hf i (by simpa using hi)
      exact h2
    · by_cases h0 : len = 0
      · exact .inl (by simp [h0])
      · obtain ⟨b, off, spot⟩ := a
        obtain ⟨hc0, _⟩ := hf 0 (by omega)
        have hspot : spot = none := by simpa [Addr.add] using World.cell?_spot hc0
        subst hspot
        have hlt : b < w.heap.size := by
          rcases Nat.lt_or_ge b w.heap.size with h | h
          · exact h
          · simp [World.cell?, Addr.add, Array.getElem?_eq_none h] at hc0
        refine .inr ⟨b, off, rfl, hlt, fun i hi => ?_⟩
        have hi2 : i < len := by simpa using hi
        obtain ⟨h0, p, c, h1, h2, h3⟩ := hf i hi2
        simp only [addO] at h0 h1
        simp only [List.getElem_map, List.getElem_range]
        exact ⟨h0, p, c, h1, h3⟩

theorem trod_struct6d {H : Type} {enc : TypeId × Value → H} {P : Program} {w : World} {base : Nat} {spare : Nat → Bool} {held : Bool} {t : TypeId} {f0 f1 f2 f3 f4 f5 : Field} {fuel : Nat} {cs : List Value} {x : DataW H × List MemPlace} (ht : P.underlying t = some (.struct #[f0, f1, f2, f3, f4, f5])) (h : DataW.trod enc P w base spare held fuel t cs = some x) :
    ∃ y0 y1 y2 y3 y4 y5 n, DataW.trod enc P w base spare held n f0.type ((cs.drop f0.offset).take (P.cellsOf f0.type)) = some y0 ∧ DataW.trod enc P w base spare held n f1.type ((cs.drop f1.offset).take (P.cellsOf f1.type)) = some y1 ∧ DataW.trod enc P w base spare held n f2.type ((cs.drop f2.offset).take (P.cellsOf f2.type)) = some y2 ∧ DataW.trod enc P w base spare held n f3.type ((cs.drop f3.offset).take (P.cellsOf f3.type)) = some y3 ∧ DataW.trod enc P w base spare held n f4.type ((cs.drop f4.offset).take (P.cellsOf f4.type)) = some y4 ∧ DataW.trod enc P w base spare held n f5.type ((cs.drop f5.offset).take (P.cellsOf f5.type)) = some y5 := by
  obtain ⟨xs, n, _, rfl, hl, hlen, hf⟩ := DataW.trod_struct ht h
  match xs, hlen with
  | [y0, y1, y2, y3, y4, y5], _ => exact ⟨y0, y1, y2, y3, y4, y5, n, by simpa using hf 0 f0 rfl, by simpa using hf 1 f1 rfl, by simpa using hf 2 f2 rfl, by simpa using hf 3 f3 rfl, by simpa using hf 4 f4 rfl, by simpa using hf 5 f5 rfl⟩
set_option maxRecDepth 100000 in
theorem open_done {H : Type} {enc : TypeId × Value → H} {w : World} {base b0 : Nat} {spare : Nat → Bool} {held : Bool} {r : Reach} {v : Value} {d : DataW H} {ps : List MemPlace}
    (hv : Value.okWide Tryz.prog w r b0 26 v) (h : DataW.Trod enc Tryz.prog w base spare held 26 v d ps) :
    ∃ (sn at_ : Int) (p1 p2 : Option Addr) (c1 c2 : Nat) (di do_ : Bool) (rs : List Rdg) (cs : List Cgr), v = .agg #[.int .i64 sn, .int .i64 at_, .slice p1 rs.length c1, .slice p2 cs.length c2, .bool di, .bool do_] ∧ MaxDn rs cs ∧ InRd w p1 rs ∧ InCg w p2 cs := by
  obtain ⟨cs, rfl, hsz⟩ := okWide_struct Tryz.underlying26 hv
  obtain ⟨fuel, hf⟩ := h
  rw [cellsDn] at hsz
  obtain ⟨l⟩ := cs
  match l, hsz with
  | [c0, c1, c2, c3, c4, c5], _ =>
    obtain ⟨y0, y1, y2, y3, y4, y5, n, t0, t1, t2, t3, t4, t5⟩ := trod_struct6d Tryz.underlying26 (show DataW.trod enc Tryz.prog w base spare held fuel 26 [c0, c1, c2, c3, c4, c5] = some _ by simpa [Value.cells] using hf)
    obtain ⟨sn, e0, _⟩ := DataW.trod_int Tryz.underlying3 t0
    obtain ⟨at_, e1, _⟩ := DataW.trod_int Tryz.underlying3 t1
    obtain ⟨p1, l1, k1, rs, e2, hl1, hr0, hr1, hr2⟩ := open_reads t2
    obtain ⟨p2, l2, k2, cs, e3, hl2, hs1, hs2⟩ := open_changes t3
    obtain ⟨di, e4, _⟩ := DataW.trod_bool Tryz.underlying4 t4
    obtain ⟨do_, e5, _⟩ := DataW.trod_bool Tryz.underlying4 t5
    simp [cellsI1, cellsB1, cellsRw, cellsCw] at e0 e1 e2 e3 e4 e5
    subst e0 e1 e2 e3 e4 e5 hl1 hl2
    exact ⟨sn, at_, p1, p2, k1, k2, di, do_, rs, cs, rfl, ⟨hr0, hr1, hs1.1, hs1.2⟩, hr2, hs2⟩

end Go.Proofs.YtcggkeleaepebaaGreatDoor.Ce
