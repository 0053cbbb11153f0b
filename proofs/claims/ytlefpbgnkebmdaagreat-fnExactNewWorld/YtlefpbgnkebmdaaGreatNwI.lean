/- A new world: what the program answers. -/
import Derived.Test.YtlefpbgnkebmdaaGreatNwR
import Derived.Test.YtlefpbgnkebmdaaGreatNsI
namespace Go.Proofs.YtlefpbgnkebmdaaGreat.Nw
open Go.RowKit Tr Co Ns
set_option linter.unusedVariables false

def wA : ByteArray := { data := #[100, 111, 99, 115] }
def wB : ByteArray := { data := #[109, 111, 114, 101] }
theorem nsC_two : nsC [wA, wB] = 0 := by kernel_rfl
theorem nsL_two : nsL [wA, wB] = [wA, wB] := by unfold nsL; rw [nsC_two, if_pos rfl]
/-- A world in its block. -/
structure S6 (U : World) (b : Nat) (a0 a1 a2 a3 a4 a5 : Value) : Prop where
  lt : b < U.heap.size
  cb : U.heap[b]? = some (.cells #[a0, a1, a2, a3, a4, a5] 29)
theorem S6.new (U : World) (a0 a1 a2 a3 a4 a5 : Value) : S6 (U.alloc (.cells #[a0, a1, a2, a3, a4, a5] 29)) U.heap.size a0 a1 a2 a3 a4 a5 := ⟨by simp, heap_alloc_new _ _⟩
theorem S6.step {U U' : World} {b : Nat} {a0 a1 a2 a3 a4 a5 : Value} (h : S6 U b a0 a1 a2 a3 a4 a5) (hb : Below U.heap.size U U') : S6 U' b a0 a1 a2 a3 a4 a5 := ⟨Nat.lt_of_lt_of_le h.lt hb.size, (hb.block _ h.lt).trans h.cb⟩
theorem S6.al {U : World} {b : Nat} {a0 a1 a2 a3 a4 a5 : Value} (h : S6 U b a0 a1 a2 a3 a4 a5) (o : Obj) : S6 (U.alloc o) b a0 a1 a2 a3 a4 a5 := h.step ((Below.refl _ _).alloc (Nat.le_refl _) o)
theorem S6.out {U U' : World} {b : Nat} {a0 a1 a2 a3 a4 a5 : Value} {row : Option Nat} (h : S6 U b a0 a1 a2 a3 a4 a5) (hg : U.grownBy U' row) (hne : some b ≠ row) : S6 U' b a0 a1 a2 a3 a4 a5 := ⟨Nat.lt_of_lt_of_le h.lt hg.size, (hg.block _ h.lt hne).trans h.cb⟩
structure MkW (W : World) (b : Nat) (a0 a1 a2 a3 a4 a5 : Value) : Prop where
  lt : b < W.heap.size
  c0 : W.cell? ⟨b, 0, none⟩ = some a0
  c1 : W.cell? ⟨b, 1, none⟩ = some a1
  c2 : W.cell? ⟨b, 2, none⟩ = some a2
  c3 : W.cell? ⟨b, 3, none⟩ = some a3
  c4 : W.cell? ⟨b, 4, none⟩ = some a4
  c5 : W.cell? ⟨b, 5, none⟩ = some a5
  f0 : W.frozen? ⟨b, 0, none⟩ = false
  f1 : W.frozen? ⟨b, 1, none⟩ = false
  f2 : W.frozen? ⟨b, 2, none⟩ = false
  f3 : W.frozen? ⟨b, 3, none⟩ = false
  f4 : W.frozen? ⟨b, 4, none⟩ = false
  f5 : W.frozen? ⟨b, 5, none⟩ = false
theorem S6.all {W : World} {b : Nat} {a0 a1 a2 a3 a4 a5 : Value} (h : S6 W b a0 a1 a2 a3 a4 a5) : MkW W b a0 a1 a2 a3 a4 a5 := by
  refine ⟨h.lt, ?_, ?_, ?_, ?_, ?_, ?_, ?_, ?_, ?_, ?_, ?_, ?_⟩ <;> simp [World.cell?, World.frozen?, h.cb]
/-- What NewWorld answers. -/
def NwA (ws : List ByteArray) (w : World) (e : Ending) (w' : World) : Prop := (∃ p c t x q y ns gz cz pp cp l, e = .returned (.agg #[.slice p ns.length c, .slice t 0 x, .slice q 0 y, .int .i64 0, .slice (some ⟨gz, 0, none⟩) 4 cz, .slice pp 0 cp]) ∧ ns.map NC.n = ws ∧ OwnN w' w.heap.size (.slice p ns.length c) ns ∧ l.length = 4 ∧ (∀ x ∈ l, ZP.zero x) ∧ OwnZ w' w.heap.size (.slice (some ⟨gz, 0, none⟩) 4 cz) l ∧ (Value.slice p ns.length c).ownBlock ≠ some gz) ∧ Below w.heap.size w w'

set_option maxRecDepth 4000 in
set_option maxHeartbeats 1000000 in
theorem worldNames_two (w : World) : Calls Tryz.prog 13 #[] w fun e w' => (∃ g, e = .returned (.slice (some ⟨g, 0, none⟩) 2 2) ∧ ReadS w' g 0 [wA, wB]) ∧ Below w.heap.size w w' := by
  have hb : Below w.heap.size w (w.alloc (.cells #[.string wA, .string wB] 9)) := (Below.refl _ _).alloc (Nat.le_refl _) _
  have ho : (w.alloc (.cells #[.string wA, .string wB] 9)).ownsRow w.heap.size 9 1 (.slice (some ⟨w.heap.size, 0, none⟩) 2 2) 2 (strs [wA, wB]) :=
    ⟨rfl, .inr ⟨w.heap.size, 2, _, rfl, Nat.le_refl _, heap_alloc_new w _, Nat.le_refl _, by unfold maxLen; omega, rfl, rfl⟩⟩
  have HR : Hid (ReadS _ _ _ _) := readS_own ho
  have HB : Hid (Below _ _ _) := hb
  clear ho hb
  go_enter Tryz.func13, Tryz.ntmps13
  go_wp2_with fail
  go_ret
  exact ⟨⟨w.heap.size, rfl, HR.out⟩, HB.out⟩

def zp0 : ZP := ⟨0, 0, none, 0, none, 0, false, false, none, 0⟩
def zs4 : List ZP := [zp0, zp0, zp0, zp0]
theorem zs4_zero : ∀ x ∈ zs4, ZP.zero x := by
  intro x hx
  unfold zs4 at hx
  simp at hx
  subst hx
  exact ⟨rfl, rfl, rfl, rfl⟩
theorem make_zs : ∃ M : Array Value, (∀ W : World, (Instr.makeSlice 27 (.int .i64 4) (.int .i64 4)).run Tryz.prog W = .ok (.slice (some ⟨W.heap.size, 0, none⟩) 4 4) (W.alloc (.cells M 44))) ∧ M.toList = flatZ zs4 := by
  obtain ⟨i0, hi, hz0, hz1, hz2⟩ := info_parts infoZ
  refine ⟨madeCells (Value.agg #[.int .i64 0, .int .i64 0, .slice none 0 0, .slice none 0 0, .bool false, .bool false, .slice none 0 0]).cells (4 * 7), fun W => ?_, by kernel_rfl⟩
  have h := run_make (P := Tryz.prog) W 27 44 i0 (.agg #[.int .i64 0, .int .i64 0, .slice none 0 0, .slice none 0 0, .bool false, .bool false, .slice none 0 0]) Tryz.underlying27 hi hz0 .i64 .i64 4 4 (by omega) (by omega) (by rw [hz2]; omega) (by omega)
  rw [hz1, show (4 : Int).toNat = 4 from rfl] at h
  exact h
theorem own_zs (w : World) {M : Array Value} (hM : M.toList = flatZ zs4) {base : Nat} (hb : base ≤ w.heap.size) : OwnZ (w.alloc (.cells M 44)) base (.slice (some ⟨w.heap.size, 0, none⟩) 4 4) zs4 :=
  ⟨rfl, .inr ⟨w.heap.size, 4, M, rfl, hb, heap_alloc_new w _, Nat.le_refl _, by unfold maxLen; omega, by rw [← Array.length_toList, hM]; rfl, by rw [hM]; rfl⟩⟩
theorem kept6 {w : World} {base b : Nat} {e : TypeId} {size : Nat} {v : Value} {n : Nat} {xs : List Value} {x0 x1 x2 x3 x4 x5 : Value} (h : w.ownsRow base e size v n xs) (hv : ¬ v.ownBlock = some b) : ((((((w.setCell ⟨b, 0, none⟩ x0).setCell ⟨b, 1, none⟩ x1).setCell ⟨b, 2, none⟩ x2).setCell ⟨b, 3, none⟩ x3).setCell ⟨b, 4, none⟩ x4).setCell ⟨b, 5, none⟩ x5).ownsRow base e size v n xs :=
  World.ownsRow.kept (World.ownsRow.kept (World.ownsRow.kept (World.ownsRow.kept (World.ownsRow.kept (World.ownsRow.kept h grown_set (.inr hv)) grown_set (.inr hv)) grown_set (.inr hv)) grown_set (.inr hv)) grown_set (.inr hv)) grown_set (.inr hv)
theorem zs6 {w : World} {M : Array Value} (hM : M.toList = flatZ zs4) {base b : Nat} (hb : base ≤ w.heap.size) {x0 x1 x2 x3 x4 x5 : Value} : OwnZ ((((((((w.setCell ⟨b, 0, none⟩ x0).setCell ⟨b, 1, none⟩ x1).setCell ⟨b, 2, none⟩ x2).setCell ⟨b, 3, none⟩ x3).setCell ⟨b, 4, none⟩ x4).setCell ⟨b, 5, none⟩ x5).alloc (.cells M 44)).drew) base (.slice (some ⟨w.heap.size, 0, none⟩) 4 4) zs4 := by
  have hz : ∀ (W : World) (a : Addr) (x : Value), (W.setCell a x).heap.size = W.heap.size := fun W a x => by simp [World.setCell]
  have h := own_zs ((((((w.setCell ⟨b, 0, none⟩ x0).setCell ⟨b, 1, none⟩ x1).setCell ⟨b, 2, none⟩ x2).setCell ⟨b, 3, none⟩ x3).setCell ⟨b, 4, none⟩ x4).setCell ⟨b, 5, none⟩ x5) hM (base := base) (by simp only [hz]; exact hb)
  simp only [hz] at h
  exact World.ownsRow.drew h
set_option maxRecDepth 4000 in
set_option maxHeartbeats 4000000 in
theorem implNewWorld_any (w : World) : Calls Tryz.prog 5 #[] w (NwA [wA, wB] w) := by
  have X0 := S6.new w (.slice none 0 0) (.slice none 0 0) (.slice none 0 0) (.int .i64 0) (.slice none 0 0) (.slice none 0 0)
  have B0 : Below w.heap.size w (w.alloc (.cells #[.slice none 0 0, .slice none 0 0, .slice none 0 0, .int .i64 0, .slice none 0 0, .slice none 0 0] 29)) := (Below.refl _ _).alloc (Nat.le_refl _) _
  go_enter Tryz.func5, Tryz.ntmps5
  go_wp2_with fail
  generalize w.alloc (.cells #[.slice none 0 0, .slice none 0 0, .slice none 0 0, .int .i64 0, .slice none 0 0, .slice none 0 0] 29) = W0 at X0 B0 ⊢
  refine (worldNames_two _).mono ?_
  rintro e w1 ⟨⟨g, rfl, hr⟩, hb⟩
  have X1 := X0.step hb
  have B1 := B0.trans (hb.mono B0.size)
  have HN : Hid (Calls _ _ _ _ _) := implNewStore_any g 2 [wA, wB] w1 hr (by decide) (by decide)
  clear X0 B0 hb hr
  go_wp2_with fail
  refine HN.out.mono ?_
  rintro e w2 ⟨⟨p, c, t, x, q, y, ns, rfl, hm, ho⟩, hb⟩
  rw [nsC_two]
  rw [nsL_two] at hm
  have hS : S4 (w2.alloc (.cells #[.slice p ns.length c, .slice t 0 x, .slice q 0 y, .int .i64 0] 26)) w2.heap.size _ _ _ _ := S4.new w2 _ _ _ _
  have X2 := (X1.step hb).al (.cells #[.slice p ns.length c, .slice t 0 x, .slice q 0 y, .int .i64 0] 26)
  have B2 : Below w.heap.size w (w2.alloc (.cells #[.slice p ns.length c, .slice t 0 x, .slice q 0 y, .int .i64 0] 26)) := (B1.trans (hb.mono B1.size)).alloc (Nat.le_trans B1.size hb.size) _
  have ho2 : OwnN (w2.alloc (.cells #[.slice p ns.length c, .slice t 0 x, .slice q 0 y, .int .i64 0] 26)) w1.heap.size (.slice p ns.length c) ns := World.ownsRow.alloc ho _
  have hz1 : w.heap.size < w1.heap.size := X1.lt
  clear X1 hb ho HN
  go_wp2_with fail
  generalize w2.alloc (.cells #[.slice p ns.length c, .slice t 0 x, .slice q 0 y, .int .i64 0] 26) = W2 at hS X2 B2 ho2 ⊢
  obtain ⟨rl, rc0, rc1, rc2, rc3, rc4, rc5, rf0, rf1, rf2, rf3, rf4, rf5⟩ := X2.all
  obtain ⟨sl, sc0, sc1, sc2, sc3, sf0, sf1, sf2, sf3⟩ := hS.all
  obtain ⟨M, hmk, hM⟩ := make_zs
  have HMM : Hid (M.toList = flatZ zs4) := hM
  have HO : Hid (OwnN W2 w1.heap.size (.slice p ns.length c) ns) := ho2
  have hne : ∀ g, (Value.slice p ns.length c).ownBlock = some g → w1.heap.size ≤ g ∧ g < W2.heap.size := fun g h => World.ownsRow.lt ho2 g h
  have HNE : Hid _ := hne
  have HM : Hid _ := hm
  clear hm ho2 hS X2 hne hM
  go_region_law (fail)
  all_goals
    go_wp2_with fail
    refine bodyPost_ret (v := .agg #[.slice p ns.length c, .slice t 0 x, .slice q 0 y, .int .i64 0, .slice (some ⟨W2.heap.size, 0, none⟩) 4 4, .slice none 0 0]) (by simp [results, Tryz.results5, go_sem, *]) rfl ⟨⟨p, c, t, x, q, y, ns, W2.heap.size, 4, none, 0, zs4, rfl, HM.out, ?_, rfl, zs4_zero, ?_, ?_⟩, ?_⟩
    · exact owns_mono (World.ownsRow.drew (World.ownsRow.alloc (kept6 HO.out (fun e => by have := HNE.out _ e; omega)) _)) (by omega)
    · exact zs6 HMM.out B2.size
    · exact fun e => by have := HNE.out _ e; omega
    · (repeat (first | (with_reducible exact Below.refl _ _) | (with_reducible assumption) | (with_reducible apply below_drewN) | (with_reducible apply Below.drew) | ((with_reducible refine Below.setCell ?_ ?_ _); rotate_left; focus (first | (simp; done) | (simp; omega) | omega)) | ((with_reducible refine Below.alloc ?_ ?_ _); rotate_left; focus (first | (simp; done) | (simp; omega) | omega))))

end Go.Proofs.YtlefpbgnkebmdaaGreat.Nw
