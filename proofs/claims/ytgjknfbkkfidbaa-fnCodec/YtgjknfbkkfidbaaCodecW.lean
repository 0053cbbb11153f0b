/- What the specification's drawn value is; the law on values and their bytes returns true for every two codes. -/
import Derived.Test.YtgjknfbkkfidbaaDrawS
import Derived.Test.YtgjknfbkkfidbaaCodecM
import Derived.Test.YtgjknfbkkfidbaaDecodeR
import Derived.Test.YtgjknfbkkfidbaaDepthL
import Derived.Test.YtgjknfbkkfidbaaListA
namespace Go.Proofs.Ytgjknfbkkfidbaa
open Go.RowKit
set_option linter.unusedVariables false

theorem BlkR.grown {W W' : World} {B g : Nat} {a b c : Value} (h : BlkR W B a b c) (hg : W.grownBy W' (some g)) (hne : B ≠ g) : BlkR W' B a b c :=
  have e := hg.block B h.lt (fun e => hne (by injection e))
  ⟨Nat.lt_of_lt_of_le h.lt hg.size, (World.cell?_of_block e).trans h.c0, (World.cell?_of_block e).trans h.c1, (World.cell?_of_block e).trans h.c2, (World.frozen?_of_block e).trans h.z0, (World.frozen?_of_block e).trans h.z1, (World.frozen?_of_block e).trans h.z2⟩
set_option maxRecDepth 4000 in
set_option maxHeartbeats 1000000 in
theorem valueOf_any (x : Option Addr) (cap : Nat) (zs : List Int) (w : World) (h : InC w x zs) :
    Calls Try.prog 6 #[.slice x zs.length cap] w fun e w' => (∃ v : Val, e = .returned (.agg #[.int .i64 v.k, .int .i64 v.n, .string v.t]) ∧ okB v = true) ∧ Below w.heap.size w w' := by
  have K0 := BlkR.new w (.int .i64 0) (.int .i64 0) (.string em) 24
  have hb0 : Below w.heap.size w (w.alloc (.cells #[.int .i64 0, .int .i64 0, .string em] 24)) := (Below.refl _ _).alloc (Nat.le_refl _) _
  have HS : Hid (Calls _ _ _ _ _) := l00Source_any x cap zs (w.alloc (.cells #[.int .i64 0, .int .i64 0, .string em] 24)) (h.step hb0)
  clear h
  go_enter Try.func6, Try.ntmps6
  go_wp2_with fail
  refine HS.out.mono ?_
  rintro e w1 ⟨rfl, s1, b1⟩
  have K1 := K0.step b1
  have B1 : Below w.heap.size w w1 := hb0.trans (b1.mono hb0.size)
  simp only [heap_size_alloc] at s1
  have HSR : Hid (SrcAt _ _ _ _ _ _) := s1
  clear s1 b1 K0 HS
  go_wp2_with fail
  refine (val_at 3 (w.heap.size + 1) x cap zs 0 _ HSR.out (by decide)).mono ?_
  rintro e w2 ⟨⟨v, rfl, hv⟩, d2⟩
  have K2 := K1.grown d2.1 (by omega)
  have B2 : Below w.heap.size w w2 := Below.grown B1 d2.1 B1.size (fun j hj => by injection hj with hj; omega)
  have HV : Hid _ := hv
  have a0 := K2.c0
  have a1 := K2.c1
  have a2 := K2.c2
  have z0 := K2.z0
  have z1 := K2.z1
  have z2 := K2.z2
  have hlt := K2.lt
  clear hv d2 K1 HSR
  go_wp2_with fail
  refine bodyPost_ret (v := .agg #[.int .i64 v.k, .int .i64 v.n, .string v.t]) (by simp [results, Try.results6, go_sem, *]) rfl ⟨⟨v, rfl, HV.out⟩, ?_⟩
  (repeat (first | (with_reducible exact Below.refl _ _) | (with_reducible assumption) | (with_reducible apply below_drewN) | (with_reducible apply Below.drew) | ((with_reducible refine Below.setCell ?_ ?_ _); rotate_left; focus (first | (simp; done) | (simp; omega) | omega)) | ((with_reducible refine Below.alloc ?_ ?_ _); rotate_left; focus (first | (simp; done) | (simp; omega) | omega))))

set_option maxRecDepth 8000 in
set_option maxHeartbeats 2000000 in
theorem at_any (x : Option Addr) (cap : Nat) (zs : List Int) (n : Nat) (w : World) (h : InC w x zs) (h1 : 1 ≤ n) (hn : n ≤ 1048576) :
    Calls Try.prog 11 #[.slice x zs.length cap, .int .i64 0, .int .i64 n] w fun e w' => (∃ r : Nat, e = .returned (.int .i64 r) ∧ r < n) ∧ Below w.heap.size w w' := by
  by_cases hn1 : n ≤ 1
  · obtain rfl : n = 1 := by omega
    clear h
    go_enter Try.func11, Try.ntmps11
    go_wp2_with fail
    go_ret
    exact ⟨⟨0, rfl, by omega⟩, Below.refl _ _⟩
  have hn2 : ¬ ((n : Int) ≤ 1) := by omega
  have hnz : ((n : Int) == 0) = false := beq_eq_false_iff_ne.mpr (by omega)
  rcases h.inb with h0 | ⟨b, off, rfl, hlt, hc⟩
  · obtain rfl := List.eq_nil_of_length_eq_zero h0
    clear h
    go_enter Try.func11, Try.ntmps11
    go_wp2_with fail
    go_ret
    exact ⟨⟨0, by simp, by omega⟩, Below.refl _ _⟩
  by_cases hz : zs.length = 0
  · obtain rfl := List.eq_nil_of_length_eq_zero hz
    clear h hc
    go_enter Try.func11, Try.ntmps11
    go_wp2_with fail
    go_ret
    exact ⟨⟨0, by simp, by omega⟩, Below.refl _ _⟩
  have hlz : ((zs.length : Int) == 0) = false := beq_eq_false_iff_ne.mpr (by omega)
  have hl := h.len
  obtain ⟨y0, hy0⟩ : ∃ y0, y0 = zs.getD 0 0 := ⟨_, rfl⟩
  have c0 := hc 0 (by omega)
  have hb0 := h.bytes 0 (by omega)
  rw [Nat.add_zero, ← hy0] at c0
  rw [← hy0] at hb0
  obtain ⟨j, hj⟩ : ∃ j, j = 1 % zs.length := ⟨_, rfl⟩
  have hjl : j < zs.length := by rw [hj]; exact Nat.mod_lt _ (by omega)
  obtain ⟨y1, hy1⟩ : ∃ y1, y1 = zs.getD j 0 := ⟨_, rfl⟩
  have c1 := hc j hjl
  have hb1 := h.bytes j hjl
  rw [← hy1] at c1 hb1
  have hm : Int.tmod 1 (zs.length : Int) = (j : Int) := by rw [hj]; rfl
  have hd0 : Int.tdiv 0 (zs.length : Int) = 0 := Int.zero_tdiv _
  have hm0 : Int.tmod 0 (zs.length : Int) = 0 := Int.zero_tmod _
  have hpos : (0 : Int) < (zs.length : Int) := by omega
  have hjl2 : (j : Int) < (zs.length : Int) := by omega
  have hres : ∃ r : Nat, r < n ∧ Int.tmod (y0 * 31 + y1) (n : Int) = (r : Int) := by
    refine ⟨(y0 * 31 + y1).toNat % n, Nat.mod_lt _ (by omega), ?_⟩
    have e : y0 * 31 + y1 = (((y0 * 31 + y1).toNat : Nat) : Int) := by omega
    rw [e]; rfl
  obtain ⟨r, hrn, hr⟩ := hres
  have HRN : Hid _ := hrn
  clear h hc hy0 hy1 hj hrn
  go_enter Try.func11, Try.ntmps11
  go_wp2_with fail
  go_quiet (fail)
  go_wp2_with fail
  go_ret
  exact ⟨⟨r, by simp [*], HRN.out⟩, by (repeat (first | (with_reducible exact Below.refl _ _) | (with_reducible assumption) | (with_reducible apply below_drewN) | (with_reducible apply Below.drew) | ((with_reducible refine Below.setCell ?_ ?_ _); rotate_left; focus (first | (simp; done) | (simp; omega) | omega)) | ((with_reducible refine Below.alloc ?_ ?_ _); rotate_left; focus (first | (simp; done) | (simp; omega) | omega))))⟩

end Go.Proofs.Ytgjknfbkkfidbaa
