/- What the specification draws for the law on intervals: keys and intervals; a byte, and a code's bytes behind it. -/
import Derived.Test.YtkeghknceccdmaaGreatDoorTermsW
import Derived.Test.YtkeghknceccdmaaGreatDoorKeyV
import Derived.Test.YtkeghknceccdmaaGreatDoorIvlH
import Derived.Deep.AppendSrc
namespace Go.Proofs.YtkeghknceccdmaaGreatDoor
open Go.RowKit
set_option linter.unusedVariables false

/-- A call that draws an interval: the source, and the cells of the answer. -/
structure DrawI (w W : World) (g : Nat) (x : Option Addr) (cap : Nat) (zs : List Int) (a : Nat) : Prop where
  drew : Drew w g x cap zs a W
  blk : W.heap[w.heap.size]? = some (.cells #[.string em, .string em, .bool false] 24)
section
variable {w W W' : World} {g : Nat} {x : Option Addr} {cap : Nat} {zs : List Int} {a b : Nat}
theorem DrawI.lt (X : DrawI w W g x cap zs a) : w.heap.size < W.heap.size := (Array.getElem?_eq_some_iff.1 X.blk).1
theorem DrawI.cells (X : DrawI w W g x cap zs a) : W.cell? ⟨w.heap.size, 0, none⟩ = some (.string em) ∧ W.cell? ⟨w.heap.size, 1, none⟩ = some (.string em) ∧ W.cell? ⟨w.heap.size, 2, none⟩ = some (.bool false) ∧ W.frozen? ⟨w.heap.size, 0, none⟩ = false ∧ W.frozen? ⟨w.heap.size, 1, none⟩ = false ∧ W.frozen? ⟨w.heap.size, 2, none⟩ = false := by
  have h := X.blk
  refine ⟨?_, ?_, ?_, ?_, ?_, ?_⟩ <;> simp [World.cell?, World.frozen?, h]
theorem DrawI.start (h : SrcAt w g x cap zs a) : DrawI w (w.alloc (.cells #[.string em, .string em, .bool false] 24)) g x cap zs a := by
  have hb : Below w.heap.size w (w.alloc (.cells #[.string em, .string em, .bool false] 24)) := (Below.refl _ _).alloc (Nat.le_refl _) _
  have hg : w.grownBy (w.alloc (.cells #[.string em, .string em, .bool false] 24)) (some g) := (grown_below hb).but _
  obtain ⟨k, s, h1, h2, h3⟩ := h.block
  exact ⟨⟨hg, ⟨⟨k, s, h1, h2, (hb.block g h.lt).trans h3⟩, h.code.next hg⟩⟩, heap_alloc_new w _⟩
theorem DrawI.grown (X : DrawI w W g x cap zs a) (hc : CodeAt w g x zs) (hg : g < w.heap.size) {row : Option Nat} (k : W.grownBy W' row) (hr : ∀ j, row = some j → w.heap.size < j) : DrawI w W' g x cap zs a := by
  have h1 : w.grownBy W' (some g) := grown_up X.drew.1 k (fun j hj => Nat.le_of_lt (hr j hj))
  obtain ⟨p, s, e1, e2, e3⟩ := X.drew.2.block
  have hl := X.lt
  refine ⟨⟨h1, ⟨⟨p, s, e1, e2, (k.block g (by omega) (fun e => by have := hr g e.symm; omega)).trans e3⟩, hc.next h1⟩⟩, (k.block _ hl (fun e => by have := hr _ e.symm; omega)).trans X.blk⟩
theorem DrawI.below (X : DrawI w W g x cap zs a) (hc : CodeAt w g x zs) (hg : g < w.heap.size) (hb : Below W.heap.size W W') : DrawI w W' g x cap zs a := X.grown hc hg (grown_below hb) (fun _ h => by cases h)
theorem DrawI.step (X : DrawI w W g x cap zs a) (hg : g < w.heap.size) (d : Drew W g x cap zs b W') : DrawI w W' g x cap zs b :=
  ⟨X.drew.trans d, (d.1.block _ X.lt (fun e => by injection e with e; omega)).trans X.blk⟩
theorem DrawI.fin (X : DrawI w W g x cap zs a) (hc : CodeAt w g x zs) (hg : g < w.heap.size) (hab : a ≤ b) (v0 v1 v2 : Value) : Drew w g x cap zs b (((W.setCell ⟨w.heap.size, 0, none⟩ v0).setCell ⟨w.heap.size, 1, none⟩ v1).setCell ⟨w.heap.size, 2, none⟩ v2) := by
  have h := Drew.setR hc hg (Drew.setR hc hg (Drew.setR hc hg X.drew 0 v0) 1 v1) 2 v2
  exact ⟨h.1, h.2.mono hab⟩
end
/-- A block of an interval that may be written. -/
structure T3i (W : World) (b : Nat) (v0 v1 v2 : Value) : Prop where
  blk : W.heap[b]? = some (.cells #[v0, v1, v2] 24)
theorem T3i.lt {W : World} {b : Nat} {v0 v1 v2 : Value} (X : T3i W b v0 v1 v2) : b < W.heap.size := (Array.getElem?_eq_some_iff.1 X.blk).1
theorem T3i.cells {W : World} {b : Nat} {v0 v1 v2 : Value} (X : T3i W b v0 v1 v2) : W.cell? ⟨b, 0, none⟩ = some v0 ∧ W.cell? ⟨b, 1, none⟩ = some v1 ∧ W.cell? ⟨b, 2, none⟩ = some v2 ∧ W.frozen? ⟨b, 0, none⟩ = false := by
  have h := X.blk
  refine ⟨?_, ?_, ?_, ?_⟩ <;> simp [World.cell?, World.frozen?, h]
theorem T3i.new (W : World) (v0 v1 v2 : Value) : T3i (W.alloc (.cells #[v0, v1, v2] 24)) W.heap.size v0 v1 v2 := ⟨heap_alloc_new W _⟩
theorem T3i.grown {W W' : World} {b : Nat} {v0 v1 v2 : Value} (X : T3i W b v0 v1 v2) {row : Option Nat} (k : W.grownBy W' row) (hne : some b ≠ row) : T3i W' b v0 v1 v2 := ⟨(k.block b X.lt hne).trans X.blk⟩
theorem T3i.under {W W' : World} {b B : Nat} {v0 v1 v2 : Value} (X : T3i W b v0 v1 v2) (hb : Below B W W') (h : b < B) : T3i W' b v0 v1 v2 := ⟨(hb.block _ h).trans X.blk⟩
theorem T3i.step {W W' : World} {b : Nat} {v0 v1 v2 : Value} (X : T3i W b v0 v1 v2) (hb : Below W.heap.size W W') : T3i W' b v0 v1 v2 := X.under hb X.lt

set_option maxRecDepth 4000 in
set_option maxHeartbeats 1000000 in
theorem keyT_at (g : Nat) (x : Option Addr) (cap : Nat) (zs : List Int) (a : Nat) (w : World) (h : SrcAt w g x cap zs a) (ha : a + 500 ≤ 100000) :
    Calls Tryz.prog 102 #[.pointer (some ⟨g, 0, none⟩)] w fun e w' => (∃ t : ByteArray, e = .returned (.string t) ∧ t.size ≤ 6622) ∧ Drew w g x cap zs (a + 500) w' := by
  have hcost : costV 2 = 430 := rfl
  have HC : Hid (CodeAt _ _ _ _) := h.code
  have HV : Hid (Calls _ _ _ _ _) := val_at 2 g x cap zs a w h (by omega)
  clear h
  go_enter Tryz.func102, Tryz.ntmps102
  go_wp2_with fail
  refine HV.out.mono ?_
  rintro e w1 ⟨⟨v, rfl, hv⟩, d1⟩
  have HO : Hid (okB v = true) := hv
  have HD1 : Hid (Drew _ _ _ _ _ _ _) := d1
  clear d1 hv HV
  go_wp2_with fail
  refine (chance_any g x cap zs (a + costV 2) 4 _ HD1.out.2 (by omega) (by omega) (by omega)).mono ?_
  rintro e w2 ⟨⟨b, rfl⟩, d2⟩
  have HD2 : Hid (Drew _ _ _ _ _ _ _) := HD1.out.trans d2
  clear d2 HD1
  go_wp2_with fail
  refine (l04Key_any v b _ HO.out).mono ?_
  rintro e w3 ⟨rfl, hb⟩
  have k : w2.grownBy w3 none := grown_below hb
  have h1 : w.grownBy w3 (some g) := grown_up HD2.out.1 k (fun j hj => by cases hj)
  obtain ⟨p, s, e1, e2, e3⟩ := HD2.out.2.block
  have HD3 : Hid (Drew w g x cap zs (a + 500) w3) := ⟨h1, ⟨⟨p, s, by omega, e2, (k.block g HD2.out.2.lt (fun e => by cases e)).trans e3⟩, HC.out.next h1⟩⟩
  have hsz : (mkB (dirK b (keyV 5 v))).size ≤ 6622 := by
    have := key_size v HO.out
    rw [mkB_size] at this ⊢
    unfold dirK
    cases b
    · exact this
    · simp only [if_true]; rw [turnL_len]; exact this
  clear h1 k hb e1 e2 e3 HD2
  go_wp2_with fail
  go_ret
  exact ⟨⟨_, rfl, hsz⟩, HD3.out⟩

set_option maxRecDepth 4000 in
set_option maxHeartbeats 4000000 in
theorem interval_at (g : Nat) (x : Option Addr) (cap : Nat) (zs : List Int) (a : Nat) (w : World) (h : SrcAt w g x cap zs a) (ha : a + 1010 ≤ 100000) :
    Calls Tryz.prog 44 #[.pointer (some ⟨g, 0, none⟩)] w fun e w' => (∃ i : Ivl, e = .returned (.agg #[.string i.lo, .string i.hi, .bool i.op]) ∧ i.lo.size ≤ 6622 ∧ i.hi.size ≤ 6622) ∧ Drew w g x cap zs (a + 1010) w' := by
  have hg := h.lt
  have HC : Hid (CodeAt _ _ _ _) := h.code
  have HX0 : Hid (DrawI _ _ _ _ _ _ _) := DrawI.start h
  clear h
  go_enter Tryz.func44, Tryz.ntmps44
  go_wp2_with fail
  refine (keyT_at g x cap zs a _ HX0.out.drew.2 (by omega)).mono ?_
  rintro e w1 ⟨⟨lo, rfl, hlo⟩, d1⟩
  have HX1 : Hid (DrawI _ _ _ _ _ _ _) := HX0.out.step hg d1
  clear d1 HX0
  go_wp2_with fail
  refine (keyT_at g x cap zs (a + 500) _ HX1.out.drew.2 (by omega)).mono ?_
  rintro e w2 ⟨⟨hi, rfl, hhi⟩, d2⟩
  have HX2 : Hid (DrawI _ _ _ _ _ _ _) := HX1.out.step hg d2
  clear d2 HX1
  go_wp2_with fail
  refine (chance_any g x cap zs (a + 500 + 500) 4 _ HX2.out.drew.2 (by omega) (by omega) (by omega)).mono ?_
  rintro e w3 ⟨⟨op, rfl⟩, d3⟩
  have HX3 : Hid (DrawI _ _ _ _ _ _ _) := HX2.out.step hg d3
  have hl3 := HX3.out.lt
  have HT4 : Hid (T3i _ _ _ _ _) := T3i.new w3 (.string lo) (.string hi) (.bool op)
  have HX4 : Hid (DrawI _ _ _ _ _ _ _) := HX3.out.below HC.out hg ((Below.refl _ _).alloc (Nat.le_refl _) (.cells #[.string lo, .string hi, .bool op] 24))
  clear d3 HX2
  go_wp2_with fail
  refine (chance_any g x cap zs (a + 500 + 500 + 1) 4 _ HX4.out.drew.2 (by omega) (by omega) (by omega)).mono ?_
  rintro e w5 ⟨⟨c, rfl⟩, d5⟩
  have HX5 : Hid (DrawI _ _ _ _ _ _ _) := HX4.out.step hg d5
  have HT5 : Hid (T3i _ _ _ _ _) := HT4.out.grown d5.1 (fun e => by injection e; omega)
  clear d5 HX4 HT4 HX3
  obtain ⟨c0, c1, c2, f0, f1, f2⟩ := HX5.out.cells
  obtain ⟨t0, t1, t2, s0⟩ := HT5.out.cells
  have hne1 : ¬ w3.heap.size = w.heap.size := by omega
  have hne2 : ¬ w.heap.size = w3.heap.size := by omega
  have hlF := HT5.out.lt
  cases c
  · go_wp2_with fail
    refine bodyPost_ret (v := .agg #[.string lo, .string hi, .bool op]) (by simp [results, Tryz.results44, go_sem, *]) rfl ⟨⟨⟨lo, hi, op⟩, rfl, hlo, hhi⟩, ?_⟩
    exact HX5.out.fin (b := a + 1010) HC.out hg (by omega) _ _ _
  · go_wp2_with fail
    refine bodyPost_ret (v := .agg #[.string em, .string hi, .bool op]) (by simp [results, Tryz.results44, go_sem, *]) rfl ⟨⟨⟨em, hi, op⟩, rfl, (by decide : (em : ByteArray).size ≤ 6622), hhi⟩, ?_⟩
    exact (HX5.out.grown HC.out hg grown_set (fun j hj => by injection hj with hj; omega)).fin (b := a + 1010) HC.out hg (by omega) _ _ _

/-- Three cells of the answer. -/
structure Res3i (w W : World) : Prop where
  bel : Below w.heap.size w W
  blk : W.heap[w.heap.size]? = some (.cells #[.string em, .string em, .bool false] 24)
theorem Res3i.lt {w W : World} (X : Res3i w W) : w.heap.size < W.heap.size := (Array.getElem?_eq_some_iff.1 X.blk).1
theorem Res3i.start (w : World) : Res3i w (w.alloc (.cells #[.string em, .string em, .bool false] 24)) := ⟨(Below.refl _ _).alloc (Nat.le_refl _) _, heap_alloc_new w _⟩
theorem Res3i.step {w W W' : World} (X : Res3i w W) (hb : Below W.heap.size W W') : Res3i w W' := ⟨X.bel.trans (hb.mono X.bel.size), (hb.block _ X.lt).trans X.blk⟩
theorem Res3i.grown {w W W' : World} (X : Res3i w W) (hg : W.grownBy W' (some (w.heap.size + 1))) : Res3i w W' :=
  ⟨Below.grown X.bel hg X.bel.size (fun j hj => by injection hj with hj; omega), (hg.block _ X.lt (fun e => by injection e; omega)).trans X.blk⟩
theorem Res3i.cells {w W : World} (X : Res3i w W) : W.cell? ⟨w.heap.size, 0, none⟩ = some (.string em) ∧ W.cell? ⟨w.heap.size, 1, none⟩ = some (.string em) ∧ W.cell? ⟨w.heap.size, 2, none⟩ = some (.bool false) ∧ W.frozen? ⟨w.heap.size, 0, none⟩ = false ∧ W.frozen? ⟨w.heap.size, 1, none⟩ = false ∧ W.frozen? ⟨w.heap.size, 2, none⟩ = false := by
  have h := X.blk
  refine ⟨?_, ?_, ?_, ?_, ?_, ?_⟩ <;> simp [World.cell?, World.frozen?, h]
set_option maxRecDepth 4000 in
set_option maxHeartbeats 1000000 in
theorem intervalT_any (x : Option Addr) (cap : Nat) (zs : List Int) (w : World) (h : InC w x zs) :
    Calls Tryz.prog 8 #[.slice x zs.length cap] w fun e w' => (∃ i : Ivl, e = .returned (.agg #[.string i.lo, .string i.hi, .bool i.op]) ∧ i.lo.size ≤ 6622 ∧ i.hi.size ≤ 6622) ∧ Below w.heap.size w w' := by
  have K0 := Res3i.start w
  have HS : Hid (Calls _ _ _ _ _) := l00Source_any x cap zs (w.alloc (.cells #[.string em, .string em, .bool false] 24)) (h.step K0.bel)
  clear h
  go_enter Tryz.func8, Tryz.ntmps8
  go_wp2_with fail
  refine HS.out.mono ?_
  rintro e w1 ⟨rfl, s1, b1⟩
  have K1 := K0.step b1
  simp only [heap_size_alloc] at s1
  have HSR : Hid (SrcAt _ _ _ _ _ _) := s1
  clear s1 b1 K0 HS
  go_wp2_with fail
  refine (interval_at (w.heap.size + 1) x cap zs 0 _ HSR.out (by decide)).mono ?_
  rintro e w2 ⟨⟨t, rfl, ht⟩, d2⟩
  have K2 := K1.grown d2.1
  have HV : Hid (t.lo.size ≤ 6622 ∧ t.hi.size ≤ 6622) := ht
  obtain ⟨c0, c1, c2, f0, f1, f2⟩ := K2.cells
  have hlt := K2.lt
  have B2 := K2.bel
  clear d2 K1 HSR ht
  go_wp2_with fail
  refine bodyPost_ret (v := .agg #[.string t.lo, .string t.hi, .bool t.op]) (by simp [results, Tryz.results8, go_sem, *]) rfl ⟨⟨t, rfl, HV.out⟩, ?_⟩
  (repeat (first | (with_reducible exact Below.refl _ _) | (with_reducible assumption) | (with_reducible apply below_drewN) | (with_reducible apply Below.drew) | ((with_reducible refine Below.setCell ?_ ?_ _); rotate_left; focus (first | (simp; done) | (simp; omega) | omega)) | ((with_reducible refine Below.alloc ?_ ?_ _); rotate_left; focus (first | (simp; done) | (simp; omega) | omega))))

theorem gd5 (zs : List Int) (i : Nat) (h : i < zs.length) : zs.getD i 0 = zs[i] := by rw [List.getD, List.getElem?_eq_getElem h]; rfl
theorem infoU8i : (Tryz.prog.info? 5).map (fun i => (i.zero, i.size, i.bytes)) = some (some (.int .u8 0), 1, 1) := by kernel_rfl
def byteW (zs : List Int) : List Value := zs.map (Value.int .u8)
theorem byteW_get (zs : List Int) (i : Nat) (h : i < zs.length) : (byteW zs)[i]? = some (.int .u8 (zs.getD i 0)) := by
  unfold byteW; rw [List.getElem?_map, List.getElem?_eq_getElem h, gd5 zs i h]; rfl
set_option maxRecDepth 8000 in
/-- A byte, and a code's bytes behind it. -/
theorem app5_bytes (bb : Nat) (x : Option Addr) (cap : Nat) (zs : List Int) (w : World) (ty : TypeId) (hb : w.cell? ⟨bb, 0, none⟩ = some (.int .u8 5)) (hbl : bb < w.heap.size) (h : InC w x zs) (hl : zs.length ≤ 1048576) :
    ∃ g c' w', (Builtin.append_ #[22, 22] ty #[.slice (some ⟨bb, 0, none⟩) 1 1, .slice x zs.length cap]).run Tryz.prog w = .ok (.slice (some ⟨g, 0, none⟩) (5 :: zs : List Int).length c') w' ∧ InC w' (some ⟨g, 0, none⟩) (5 :: zs) ∧ Below w.heap.size w w' := by
  obtain ⟨i0, hi, hz0, hz1, hz2⟩ := info_parts infoU8i
  have hbytes : ∀ i, i < (5 :: zs : List Int).length → 0 ≤ (5 :: zs : List Int).getD i 0 ∧ (5 :: zs : List Int).getD i 0 < 256 := by
    intro i hi
    match i, hi with
    | 0, _ => exact ⟨by simp, by simp⟩
    | i + 1, hi => simpa using h.bytes i (by simpa using hi)
  have hlen : (5 :: zs : List Int).length = 1 + zs.length := by simp; omega
  have hle : (5 :: zs : List Int).length ≤ 2097152 := by rw [hlen]; omega
  rcases Nat.eq_zero_or_pos zs.length with h0 | h0
  · obtain rfl := List.eq_nil_of_length_eq_zero h0
    have hsrc : Src Tryz.prog i0.size 22 (.slice x 0 cap) 0 [] w := by
      cases x with
      | none => exact Src.ofNil (P := Tryz.prog) w (e' := 5) Tryz.underlying22 cap
      | some a => exact Src.ofSlice (P := Tryz.prog) w (e' := 5) Tryz.underlying22 a 0 cap [] (by simp) (fun j u hj => by simp at hj) (fun u hu => by cases hu)
    have hr := run_append_room_src (P := Tryz.prog) w 22 22 ty 5 i0 Tryz.underlying22 hi bb 0 1 1 (.slice x 0 cap) 0 [] hsrc (by omega) (fun j hj => absurd hj (by simp)) (fun j hj => absurd hj (by simp))
    refine ⟨bb, 1, w, hr, ⟨.inr ⟨bb, 0, rfl, hbl, fun i hi => ?_⟩, hbytes, hle⟩, Below.refl _ _⟩
    have : i = 0 := by simp at hi; exact hi
    subst this; simpa using hb
  · obtain ⟨b, off, rfl, hlt, hc⟩ : ∃ b off, x = some ⟨b, off, none⟩ ∧ b < w.heap.size ∧ ∀ i, i < zs.length → w.cell? ⟨b, off + i, none⟩ = some (.int .u8 (zs.getD i 0)) := by
      rcases h.inb with h1 | h1
      · omega
      · exact h1
    have hadd : ∀ (b o j : Nat), (⟨b, o, none⟩ : Addr).add j = ⟨b, o + j, none⟩ := fun b o j => by unfold Addr.add; split <;> simp_all
    have hbv : (byteW zs).length = zs.length := by unfold byteW; simp
    have hcs : ∀ j u, (byteW zs)[j]? = some u → w.cell? ((⟨b, off, none⟩ : Addr).add j) = some u := by
      intro j u hj
      have hjl : j < zs.length := by
        rcases Nat.lt_or_ge j zs.length with h | h
        · exact h
        · rw [List.getElem?_eq_none (by omega)] at hj; cases hj
      rw [byteW_get zs j hjl] at hj; injection hj with hj
      rw [hadd, ← hj]; exact hc j hjl
    have hsrc : Src Tryz.prog i0.size 22 (.slice (some ⟨b, off, none⟩) zs.length cap) zs.length (byteW zs) w :=
      Src.ofSlice (P := Tryz.prog) w (e' := 5) Tryz.underlying22 ⟨b, off, none⟩ zs.length cap (byteW zs) (by rw [hz1, hbv, Nat.mul_one]) hcs (fun u hu => by
        unfold byteW at hu; obtain ⟨_, _, rfl⟩ := List.mem_map.1 hu; rfl)
    have hold := (Src.ofSlice (P := Tryz.prog) (size := i0.size) w (e' := 5) Tryz.underlying22 ⟨bb, 0, none⟩ 1 1 [.int .u8 5] (by rw [hz1]; rfl) (fun j u hj => by
        have : j = 0 := by
          rcases Nat.eq_zero_or_pos j with h | h
          · exact h
          · rw [List.getElem?_eq_none (by simp; omega)] at hj; cases hj
        subst this
        simp at hj; rw [hadd, ← hj]; simpa using hb) (fun u hu => by simp at hu; rw [hu]; rfl)).cellsD
    have hr := run_append_grow_src (P := Tryz.prog) w 22 22 ty 5 i0 _ Tryz.underlying22 hi hz0 (some ⟨bb, 0, none⟩) 1 1 [.int .u8 5] hold (.slice (some ⟨b, off, none⟩) zs.length cap) zs.length (byteW zs) hsrc (by omega) (by omega) (by rw [hz2]; have := nextslicecap_le (need := 1 + zs.length) (old := 1) (by omega); omega)
    refine ⟨w.heap.size, _, _, by rw [hlen]; exact hr, ⟨.inr ⟨w.heap.size, 0, rfl, by simp, fun i hi => ?_⟩, hbytes, hle⟩, (Below.refl _ _).drew.alloc (by simp) _⟩
    have hs0 : w.drew.heap.size = w.heap.size := rfl
    have hcell : ∀ (W : World) (cs : Array Value) (T : TypeId) (j : Nat), (W.alloc (.cells cs T)).cell? ⟨W.heap.size, j, none⟩ = cs[j]? := fun W cs T j => World.cell?_alloc_new W cs T j
    rw [Nat.zero_add, ← hs0, hcell, Array.getElem?_append_left (by rw [List.size_toArray, List.length_append, hbv]; simp at hi ⊢; omega)]
    match i, hi with
    | 0, _ => simp
    | i + 1, hi => simpa using byteW_get zs i (by simpa using hi)

theorem wpList_app5_bytes {w : World} {ops : Array Oper} {rest : List Oper} {o : Oper} {a : Act} {Q : Exit → Act → World → Prop} (hgd : o.guard = none) (s x : Operand)
    (ho : o.op = .call { callee := .builtin .append, args := #[s, x], argTypes := #[22, 22] }) (bb : Nat) (xx : Option Addr) (cap : Nat) (zs : List Int)
    (hs : a.eval s = .slice (some ⟨bb, 0, none⟩) 1 1) (hx : a.eval x = .slice xx zs.length cap) (hb : w.cell? ⟨bb, 0, none⟩ = some (.int .u8 5)) (hbl : bb < w.heap.size) (h : InC w xx zs) (hl : zs.length ≤ 1048576)
    (hK : ∀ g c' w' nz, nz = (5 :: zs : List Int).length → InC w' (some ⟨g, 0, none⟩) (5 :: zs) → Below w.heap.size w w' → wpList Tryz.prog ops Q rest (a.put o.dst (.slice (some ⟨g, 0, none⟩) nz c')) w') :
    wpList Tryz.prog ops Q (o :: rest) a w := by
  refine wpList_plain hgd fun K hK2 => ?_
  obtain ⟨g, c', w', hr, h2, h3⟩ := app5_bytes bb xx cap zs w o.type hb hbl h hl
  unfold Oper.wp execOp
  simp only [ho, resolve, invoke, builtin, Sem.run_bind, Sem.run_pure, Result.andThen_ok, List.map_toArray, List.map_cons, List.map_nil, hs, hx, hr]
  exact hK2 _ _ (hK g c' w' _ rfl h2 h3)

end Go.Proofs.YtkeghknceccdmaaGreatDoor
