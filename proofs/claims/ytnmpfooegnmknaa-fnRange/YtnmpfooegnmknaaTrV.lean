/- Where an entry's page is: what the specification answers. -/
import Derived.Test.YtnmpfooegnmknaaTrU
namespace Go.Proofs.Ytnmpfooegnmknaa.Tr
open Go.RowKit
set_option linter.unusedVariables false

theorem atN_of (f : List Pg) (e : Ent) (k : Nat) (h : k < f.length) : atN f e k = atB e f[k] := by unfold atN; rw [List.getElem?_eq_getElem h]
theorem placeU_succ (f : List Pg) (e : Ent) (n : Nat) : placeU f e (n + 1) = if (decide (1 ≤ n) && atN f e n) = true then n else placeU f e n := rfl
theorem placeU_yes (f : List Pg) (e : Ent) (n : Nat) (h1 : 1 ≤ n) (h : atN f e n = true) : placeU f e (n + 1) = n := by rw [placeU_succ, decide_eq_true h1, h]; rfl
theorem placeU_no (f : List Pg) (e : Ent) (n : Nat) (h : atN f e n = false) : placeU f e (n + 1) = placeU f e n := by rw [placeU_succ, h, Bool.and_false]; rfl
theorem placeU_one (f : List Pg) (e : Ent) : placeU f e 1 = 0 := rfl
theorem atB_none {e : Ent} {p : Pg} (h : p.es = []) : atB e p = false := by unfold atB; rw [h]
theorem atB_some {e : Ent} {p : Pg} (h : 0 < p.es.length) : atB e p = !lessE e (p.es[0]'h) := by
  unfold atB
  match p, h with
  | ⟨n, a :: t⟩, _ => rfl

set_option maxRecDepth 4000 in
set_option maxHeartbeats 2000000 in
theorem specPlace_any (p : Option Addr) (cap : Nat) (f : List Pg) (next : Int) (e : Ent) (w : World) (hr : RowP w p f) (hl : f.length ≤ 1048576) (h1 : 1 ≤ f.length) (hs : ∀ l ∈ f, l.es.length ≤ 1048576) :
    Calls Try.prog 59 #[.agg #[.slice p f.length cap, .int .i64 next], .agg #[.string e.key, .int .i64 e.id]] w fun e' w' => e' = .returned (.int .i64 (place f e : Nat)) ∧ Below w.heap.size w w' := by
  have hb0 : Below w.heap.size w ((w.alloc (.cells #[.slice p f.length cap, .int .i64 next] 37)).alloc (.cells #[.string e.key, .int .i64 e.id] 40)) := ((Below.refl _ _).alloc (Nat.le_refl _) _).alloc (by simp) _
  have c0 : ((w.alloc (.cells #[.slice p f.length cap, .int .i64 next] 37)).alloc (.cells #[.string e.key, .int .i64 e.id] 40)).cell? ⟨w.heap.size, 0, none⟩ = some (.slice p f.length cap) := by simp [go_sem]
  have d0 : ((w.alloc (.cells #[.slice p f.length cap, .int .i64 next] 37)).alloc (.cells #[.string e.key, .int .i64 e.id] 40)).cell? ⟨w.heap.size + 1, 0, none⟩ = some (.string e.key) := by simp [go_sem]
  have d1 : ((w.alloc (.cells #[.slice p f.length cap, .int .i64 next] 37)).alloc (.cells #[.string e.key, .int .i64 e.id] 40)).cell? ⟨w.heap.size + 1, 1, none⟩ = some (.int .i64 e.id) := by simp [go_sem]
  have l0 : w.heap.size + 1 < ((w.alloc (.cells #[.slice p f.length cap, .int .i64 next] 37)).alloc (.cells #[.string e.key, .int .i64 e.id] 40)).heap.size := by simp
  have HR : Hid (RowP _ _ _) := hr.next hb0
  have HS : Hid _ := hs
  clear hr hs
  go_enter Try.func59, Try.ntmps59
  go_wp2_with fail
  generalize (w.alloc (.cells #[.slice p f.length cap, .int .i64 next] 37)).alloc (.cells #[.string e.key, .int .i64 e.id] 40) = W0 at hb0 c0 d0 d1 l0 HR ⊢
  have l1 : w.heap.size < W0.heap.size := by omega
  go_loopw [5, 6] (fun u i wr => ∃ k : Nat, k ≤ f.length ∧ 1 ≤ k ∧ i = .int .i64 k ∧ u = .int .i64 (placeU f e k : Nat) ∧ Below W0.heap.size W0 wr) (fun _ i _ => f.length - (intOf i).toNat)
  case atStart => exact ⟨1, h1, Nat.le_refl _, rfl, rfl, Below.refl _ _⟩
  case round =>
    obtain ⟨k, hk, hk1, rfl, rfl, hbel⟩ := hrel
    have k0 := (hbel.cell l1).trans c0
    by_cases hlt : k < f.length
    · rcases HR.out.next hbel with h0 | ⟨g, rfl, R1⟩
      · subst h0; simp at hlt
      obtain ⟨x0, pa, ca, x1, t1⟩ := R1.cells k hlt
      have hlt2 : (k : Int) < (f.length : Int) := by omega
      have hsz := HS.out f[k] (List.getElem_mem _)
      have u0 : ∀ u : Under wr, u.x.cell? ⟨w.heap.size, 0, none⟩ = some (.slice (some ⟨g, 0, none⟩) f.length cap) := fun u => (u.h.cell (Nat.lt_of_lt_of_le l1 hbel.size)).trans k0
      have u1 : ∀ u : Under wr, u.x.cell? ⟨g, k * 2 + 1, none⟩ = some (.slice pa f[k].es.length ca) := fun u => (u.h.cell R1.lt).trans x1
      have u2 : ∀ u : Under wr, u.x.cell? ⟨w.heap.size + 1, 0, none⟩ = some (.string e.key) := fun u => (u.h.cell (Nat.lt_of_lt_of_le l0 hbel.size)).trans ((hbel.cell l0).trans d0)
      have u3 : ∀ u : Under wr, u.x.cell? ⟨w.heap.size + 1, 1, none⟩ = some (.int .i64 e.id) := fun u => (u.h.cell (Nat.lt_of_lt_of_le l0 hbel.size)).trans ((hbel.cell l0).trans d1)
      have hnu : Nonempty (Under wr) := ⟨⟨wr, Below.refl _ _⟩⟩
      obtain ⟨pk, hpk⟩ : ∃ pk, pk = placeU f e k := ⟨_, rfl⟩
      rw [← hpk]
      have HPK : Hid _ := hpk
      clear hpk
      by_cases hz : f[k].es.length = 0
      · have hnone : f[k].es = [] := List.length_eq_zero_iff.1 hz
        have HN : Hid (placeU f e (k + 1) = pk) := (placeU_no f e k ((atN_of f e k hlt).trans (atB_none hnone))).trans HPK.out.symm
        rw [hz] at u1
        clear R1 t1 hz hnone x1
        go_wp2_with fail
        refine wp_region_under (by kernel_rfl) (by kernel_rfl) ?_
        repeat (go_big_quiet_step (fail))
        refine wpQuiet_nil ?_
        rintro _ ⟨u, rfl⟩
        go_wp2_with fail
        go_roundw
        case rel => exact ⟨k + 1, by omega, by omega, by go_num, by rw [HN.out], hbel.trans (u.h.mono hbel.size)⟩
        case measure => simp [intOf]; omega
      · have hz1 : 0 < f[k].es.length := by omega
        rcases t1 with h0 | ⟨b, off, rfl, hbl, hc⟩
        · omega
        obtain ⟨y0, y1⟩ := hc 0 hz1
        have hat := (atN_of f e k hlt).trans (atB_some hz1)
        obtain ⟨fe, hfe⟩ : ∃ fe, fe = f[k].es[0] := ⟨_, rfl⟩
        rw [← hfe] at y0 y1 hat
        have u4 : ∀ u : Under wr, u.x.cell? ⟨b, off, none⟩ = some (.string fe.key) := fun u => (u.h.cell hbl).trans y0
        have u5 : ∀ u : Under wr, u.x.cell? ⟨b, off + 1, none⟩ = some (.int .i64 fe.id) := fun u => (u.h.cell hbl).trans y1
        have hz' : 0 < (f[k].es.length : Int) := by omega
        obtain ⟨lk, hlk⟩ : ∃ lk, lk = f[k].es.length := ⟨_, rfl⟩
        rw [← hlk] at u1 hz'
        have hzd : decide (0 < lk) = true := decide_eq_true (by omega)
        have HLS0 := fun u : Under wr => specLess_any e.key fe.key e.id fe.id u.x
        have hlk1 : lk ≤ 1048576 := by omega
        clear R1 hz hlk x1 hc y0 y1 hfe
        cases hL : lessE e fe
        · rw [show lessE ⟨e.key, e.id⟩ ⟨fe.key, fe.id⟩ = false from hL] at HLS0
          rw [hL] at hat
          have HLS : Hid (∀ u : Under wr, Calls _ _ _ u.x _) := HLS0
          have HN : Hid (placeU f e (k + 1) = k) := placeU_yes f e k hk1 hat
          clear HLS0 hL hat
          go_wp2_with fail
          refine wp_region_under (by kernel_rfl) (by kernel_rfl) ?_
          repeat (go_big_quiet_step ((go_at_call 99; exact calls_under _ (HLS.out _))))
          refine wpQuiet_nil ?_
          rintro _ ⟨u, rfl⟩
          go_wp2_with fail
          go_roundw
          case rel => exact ⟨k + 1, by omega, by omega, by go_num, by rw [HN.out], hbel.trans (u.h.mono hbel.size)⟩
          case measure => simp [intOf]; omega
        · rw [show lessE ⟨e.key, e.id⟩ ⟨fe.key, fe.id⟩ = true from hL] at HLS0
          rw [hL] at hat
          have HLS : Hid (∀ u : Under wr, Calls _ _ _ u.x _) := HLS0
          have HN : Hid (placeU f e (k + 1) = pk) := (placeU_no f e k hat).trans HPK.out.symm
          clear HLS0 hL hat
          go_wp2_with fail
          refine wp_region_under (by kernel_rfl) (by kernel_rfl) ?_
          repeat (go_big_quiet_step ((go_at_call 99; exact calls_under _ (HLS.out _))))
          refine wpQuiet_nil ?_
          rintro _ ⟨u, rfl⟩
          go_wp2_with fail
          go_roundw
          case rel => exact ⟨k + 1, by omega, by omega, by go_num, by rw [HN.out], hbel.trans (u.h.mono hbel.size)⟩
          case measure => simp [intOf]; omega
    · have hlt2 : ¬ (k : Int) < (f.length : Int) := by omega
      obtain rfl : k = f.length := by omega
      have HB : Hid _ := hb0.trans (hbel.mono hb0.size)
      obtain ⟨pk, hpk⟩ : ∃ pk, pk = placeU f e f.length := ⟨_, rfl⟩
      rw [← hpk]
      have HPK : Hid (place f e = pk) := hpk.symm
      clear hpk
      go_wp2_with fail
      go_ret
      exact ⟨by rw [HPK.out]; rfl, HB.out⟩

end Go.Proofs.Ytnmpfooegnmknaa.Tr
