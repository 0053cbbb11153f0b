/- How many entries a tree has: what the program and the specification answer. -/
import Derived.Test.YtnmpfooegnmknaaTrL
namespace Go.Proofs.Ytnmpfooegnmknaa.Tr
open Go.RowKit
set_option linter.unusedVariables false

theorem sizes_all {n : Nat} : ∀ {l : List Pg}, sizesB n l = true → ∀ p ∈ l, sizeB n p = true
  | [], _, p, hp => by simp at hp
  | q :: t, h, p, hp => by
    rw [sizesB_cons, Bool.and_eq_true] at h
    rcases List.mem_cons.mp hp with e | e
    · rw [e]; exact h.1
    · exact sizes_all h.2 p e
theorem tree_parts {f : List Pg} {next : Int} (h : treeB f next = true) : (1 ≤ f.length ∧ f.length ≤ 60 ∧ 2 ≤ next ∧ next ≤ 100000) ∧ (∀ p ∈ f, p.es.length ≤ 4 ∧ ¬ (p.es.length = 0 ∧ 1 < f.length)) ∧ numsB next [] f = true ∧ entsB e0 f = true := by
  unfold treeB at h
  rw [Bool.and_eq_true, Bool.and_eq_true, Bool.and_eq_true] at h
  exact ⟨head_true h.1, fun p hp => sizeB_true (sizes_all h.2.1 p hp), h.2.2.1, h.2.2.2⟩
def sumN (f : List Pg) (k : Nat) : Nat := ((f.take k).map fun p => p.es.length).sum
theorem sumN_succ (f : List Pg) (k : Nat) (h : k < f.length) : sumN f (k + 1) = sumN f k + f[k].es.length := by
  unfold sumN; rw [List.take_succ_eq_append_getElem h, List.map_append, List.sum_append, List.map_cons, List.map_nil, List.sum_cons, List.sum_nil, Nat.add_zero]
theorem sumN_le (f : List Pg) (h : ∀ p ∈ f, p.es.length ≤ 4) : ∀ k, k ≤ f.length → sumN f k ≤ 4 * k
  | 0, _ => by simp [sumN]
  | k + 1, hk => by
    rw [sumN_succ f k (by omega)]
    have := sumN_le f h k (by omega)
    have := h f[k] (List.getElem_mem _)
    omega
theorem sumN_all (f : List Pg) : sumN f f.length = sizeP f := by unfold sumN sizeP; rw [List.take_length]

/-- The answer of TreeSize: how many, and a code. -/
def sizeT (f : List Pg) (next : Int) : Int × Int := if treeB f next = true then ((sizeP f : Nat), 0) else (0, 1)
set_option maxRecDepth 4000 in
set_option maxHeartbeats 1000000 in
theorem treeSize_any (p : Option Addr) (cap : Nat) (f : List Pg) (next : Int) (w : World) (hr : RowP w p f) (hl : f.length ≤ 1048576) (hcap : f.length ≤ cap) (hs : ∀ l ∈ f, szP l) :
    Calls Try.prog 17 #[.agg #[.slice p f.length cap, .int .i64 next]] w fun e w' => e = .returned (.tuple #[.int .i64 (sizeT f next).1, .int .i64 (sizeT f next).2]) ∧ Below w.heap.size w w' := by
  have hb0 : Below w.heap.size w (w.alloc (.cells #[.slice p f.length cap, .int .i64 next] 37)) := (Below.refl _ _).alloc (Nat.le_refl _) _
  have c0 : (w.alloc (.cells #[.slice p f.length cap, .int .i64 next] 37)).cell? ⟨w.heap.size, 0, none⟩ = some (.slice p f.length cap) := by simp [go_sem]
  have c1 : (w.alloc (.cells #[.slice p f.length cap, .int .i64 next] 37)).cell? ⟨w.heap.size, 1, none⟩ = some (.int .i64 next) := by simp [go_sem]
  have l0 : w.heap.size < (w.alloc (.cells #[.slice p f.length cap, .int .i64 next] 37)).heap.size := by simp
  have HR : Hid (RowP _ _ _) := hr.next hb0
  have HC0 := treeOK_any p cap f next _ HR.out hl hcap hs
  unfold sizeT
  clear hr hs
  cases hT : treeB f next
  · rw [hT] at HC0
    rw [if_neg (by simp)]
    have HC : Hid (Calls _ _ _ _ _) := HC0
    clear HC0 hT
    go_enter Try.func17, Try.ntmps17
    go_wp2_with fail
    refine HC.out.mono ?_
    rintro e w1 ⟨rfl, hb1⟩
    have B1 := hb0.trans (hb1.mono hb0.size)
    clear hb1 HC
    go_wp2_with fail
    go_ret2
    exact ⟨rfl, B1⟩
  · rw [hT] at HC0
    rw [if_pos rfl]
    obtain ⟨⟨h1, h2, h3, h4⟩, h5, _, _⟩ := tree_parts hT
    have HC : Hid (Calls _ _ _ _ _) := HC0
    have HF : Hid (∀ p ∈ f, p.es.length ≤ 4) := fun q hq => (h5 q hq).1
    have hal := sumN_all f
    have HAL : Hid _ := hal
    clear HC0 hT h5 hal
    go_enter Try.func17, Try.ntmps17
    go_wp2_with fail
    refine HC.out.mono ?_
    rintro e w1 ⟨rfl, hb1⟩
    have B1 := hb0.trans (hb1.mono hb0.size)
    have k0 := (hb1.cell l0).trans c0
    have k1 := (hb1.cell l0).trans c1
    have HR1 : Hid (RowP _ _ _) := HR.out.next hb1
    clear hb1 HC c0 c1 l0 hb0
    go_wp2_with fail
    go_loopw [4, 13] (fun u i wr => ∃ k : Nat, k ≤ f.length ∧ i = .int .i64 k ∧ u = .int .i64 (sumN f k) ∧ Below w1.heap.size w1 wr) (fun _ i _ => f.length - (intOf i).toNat)
    case atStart => exact ⟨0, Nat.zero_le _, rfl, rfl, Below.refl _ _⟩
    case round =>
      obtain ⟨k, hk, rfl, rfl, hbel⟩ := hrel
      have hsum := sumN_le f HF.out k hk
      by_cases hlt : k < f.length
      · rcases HR1.out.next hbel with h0 | ⟨g, rfl, R1⟩
        · subst h0; simp at hlt
        obtain ⟨x0, pa, ca, x1, t1⟩ := R1.cells k hlt
        have hlt2 : (k : Int) < (f.length : Int) := by omega
        have h4 := HF.out f[k] (List.getElem_mem _)
        have hsu := sumN_succ f k hlt
        have HSU : Hid _ := hsu
        obtain ⟨sk, hsk⟩ : ∃ sk, sk = sumN f k := ⟨_, rfl⟩
        obtain ⟨lk, hlk⟩ : ∃ lk, lk = f[k].es.length := ⟨_, rfl⟩
        rw [← hsk] at hsum ⊢
        rw [← hlk] at h4 x1
        have HK : Hid _ := hsk
        have HL : Hid _ := hlk
        have hz := hbel.size
        clear R1 t1 hsu hsk hlk
        go_wp2_with fail
        go_roundw
        case rel => exact ⟨k + 1, by omega, by go_num, by rw [HSU.out, ← HK.out, ← HL.out]; go_num, by (repeat (first | (with_reducible exact Below.refl _ _) | (with_reducible assumption) | (with_reducible apply below_drewN) | (with_reducible apply Below.drew) | ((with_reducible refine Below.setCell ?_ ?_ _); rotate_left; focus (first | (simp; done) | (simp; omega) | omega)) | ((with_reducible refine Below.alloc ?_ ?_ _); rotate_left; focus (first | (simp; done) | (simp; omega) | omega))))⟩
        case measure => simp [intOf]; omega
      · have hlt2 : ¬ (k : Int) < (f.length : Int) := by omega
        obtain rfl : k = f.length := by omega
        have HB : Hid _ := B1.trans (hbel.mono B1.size)
        obtain ⟨sz, hsz⟩ : ∃ sz, sz = sumN f f.length := ⟨_, rfl⟩
        rw [← hsz]
        have HZ : Hid _ := hsz
        clear hsz
        go_wp2_with fail
        go_ret2
        exact ⟨by rw [← HAL.out, ← HZ.out]; rfl, HB.out⟩

end Go.Proofs.Ytnmpfooegnmknaa.Tr
