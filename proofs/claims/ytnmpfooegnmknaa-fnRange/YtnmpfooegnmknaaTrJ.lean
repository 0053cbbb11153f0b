/- What the program's tests of pages answer: their sizes, their numbers, their entries. -/
import Derived.Test.YtnmpfooegnmknaaTrI
namespace Go.Proofs.Ytnmpfooegnmknaa.Tr
open Go.RowKit
set_option linter.unusedVariables false

theorem drop_cons {α : Type} (l : List α) (k : Nat) (h : k < l.length) : l.drop k = l[k] :: l.drop (k + 1) := List.drop_eq_getElem_cons h
theorem sizeB_true {n : Nat} {p : Pg} (h : sizeB n p = true) : p.es.length ≤ 4 ∧ ¬ (p.es.length = 0 ∧ 1 < n) := by
  unfold sizeB at h
  by_cases h1 : p.es.length ≤ 4
  · refine ⟨h1, fun ⟨h2, h3⟩ => ?_⟩
    simp only [h2, h3, decide_true, Bool.and_self, Bool.not_true, Bool.and_false] at h
    cases h
  · simp [h1] at h
theorem sizeB_false {n : Nat} {p : Pg} (h : sizeB n p = false) : 4 < p.es.length ∨ (p.es.length = 0 ∧ 1 < n) := by
  unfold sizeB at h
  by_cases h1 : p.es.length ≤ 4
  · right; simp [h1] at h
    exact ⟨by simpa using h.1, h.2⟩
  · left; omega

set_option maxRecDepth 4000 in
set_option maxHeartbeats 1000000 in
theorem sizesFit_any (p : Option Addr) (cap : Nat) (f : List Pg) (w : World) (hr : RowP w p f) (hl : f.length ≤ 1048576) (hs : ∀ l ∈ f, l.es.length ≤ 1048576) :
    Calls Try.prog 60 #[.slice p f.length cap] w fun e w' => e = .returned (.bool (sizesB f.length f)) ∧ Below w.heap.size w w' := by
  have HR : Hid (RowP _ _ _) := hr
  have HS : Hid _ := hs
  clear hr hs
  obtain ⟨R, hR⟩ : ∃ R, R = sizesB f.length f := ⟨_, rfl⟩
  rw [← hR]
  have HRR : Hid _ := hR
  clear hR
  go_enter Try.func60, Try.ntmps60
  go_wp2_with fail
  go_loopw [7] (fun i wr => ∃ k : Nat, k ≤ f.length ∧ i = .int .i64 k ∧ R = sizesB f.length (f.drop k) ∧ Below w.heap.size w wr) (fun i _ => f.length - (intOf i).toNat)
  case atStart => exact ⟨0, Nat.zero_le _, rfl, HRR.out, Below.refl _ _⟩
  case round =>
    obtain ⟨k, hk, rfl, hall, hbel⟩ := hrel
    have HA : Hid _ := hall
    clear hall
    by_cases hlt : k < f.length
    · rcases HR.out.next hbel with h0 | ⟨g, rfl, R1⟩
      · subst h0; simp at hlt
      obtain ⟨x0, pa, ca, x1, t1⟩ := R1.cells k hlt
      have hlt2 : (k : Int) < (f.length : Int) := by omega
      have hsz := HS.out f[k] (List.getElem_mem _)
      have hz := hbel.size
      clear R1 t1
      cases hB : sizeB f.length f[k]
      · have hfalse : R = false := HA.out.trans (by rw [drop_cons f k hlt, sizesB_cons, hB, Bool.false_and])
        have HF : Hid (R = false) := hfalse
        rcases sizeB_false hB with h4 | ⟨h5, h6⟩
        · have h4' : 4 < (f[k].es.length : Int) := by omega
          clear hB hfalse h4
          go_wp2_with fail
          go_ret
          exact ⟨by rw [HF.out]; rfl, by (repeat (first | (with_reducible exact Below.refl _ _) | (with_reducible assumption) | (with_reducible apply below_drewN) | (with_reducible apply Below.drew) | ((with_reducible refine Below.setCell ?_ ?_ _); rotate_left; focus (first | (simp; done) | (simp; omega) | omega)) | ((with_reducible refine Below.alloc ?_ ?_ _); rotate_left; focus (first | (simp; done) | (simp; omega) | omega))))⟩
        · have h4' : ¬ 4 < (f[k].es.length : Int) := by omega
          have h5' : (f[k].es.length : Int) = 0 := by omega
          have h6' : 1 < (f.length : Int) := by omega
          clear hB hfalse h5 h6
          go_wp2_with fail
          go_ret
          exact ⟨by rw [HF.out]; rfl, by (repeat (first | (with_reducible exact Below.refl _ _) | (with_reducible assumption) | (with_reducible apply below_drewN) | (with_reducible apply Below.drew) | ((with_reducible refine Below.setCell ?_ ?_ _); rotate_left; focus (first | (simp; done) | (simp; omega) | omega)) | ((with_reducible refine Below.alloc ?_ ?_ _); rotate_left; focus (first | (simp; done) | (simp; omega) | omega))))⟩
      · obtain ⟨h4, h5⟩ := sizeB_true hB
        have HN : Hid (R = sizesB f.length (f.drop (k + 1))) := HA.out.trans (by rw [drop_cons f k hlt, sizesB_cons, hB, Bool.true_and])
        have h4' : ¬ 4 < (f[k].es.length : Int) := by omega
        clear hB
        by_cases h6 : f[k].es.length = 0
        · have h6' : (f[k].es.length : Int) = 0 := by omega
          have h7' : ¬ 1 < (f.length : Int) := by omega
          clear h4 h5 h6
          go_wp2_with fail
          go_roundw
          case rel => exact ⟨k + 1, by omega, by go_num, HN.out, by (repeat (first | (with_reducible exact Below.refl _ _) | (with_reducible assumption) | (with_reducible apply below_drewN) | (with_reducible apply Below.drew) | ((with_reducible refine Below.setCell ?_ ?_ _); rotate_left; focus (first | (simp; done) | (simp; omega) | omega)) | ((with_reducible refine Below.alloc ?_ ?_ _); rotate_left; focus (first | (simp; done) | (simp; omega) | omega))))⟩
          case measure => simp [intOf]; omega
        · have h6' : ¬ f[k].es = [] := fun e => h6 (by rw [e]; rfl)
          clear h4 h5 h6
          go_wp2_with fail
          go_roundw
          case rel => exact ⟨k + 1, by omega, by go_num, HN.out, by (repeat (first | (with_reducible exact Below.refl _ _) | (with_reducible assumption) | (with_reducible apply below_drewN) | (with_reducible apply Below.drew) | ((with_reducible refine Below.setCell ?_ ?_ _); rotate_left; focus (first | (simp; done) | (simp; omega) | omega)) | ((with_reducible refine Below.alloc ?_ ?_ _); rotate_left; focus (first | (simp; done) | (simp; omega) | omega))))⟩
          case measure => simp [intOf]; omega
    · have hlt2 : ¬ (k : Int) < (f.length : Int) := by omega
      have HT : Hid (R = true) := HA.out.trans (by rw [List.drop_of_length_le (by omega)]; rfl)
      go_wp2_with fail
      go_ret
      exact ⟨by rw [HT.out]; rfl, hbel⟩

set_option maxHeartbeats 1000000 in
theorem isAlike_any (num n2 : Int) (v : Value) (b : Nat) (w : World) (hc : w.cell? ⟨b, 0, none⟩ = some (.int .i64 num)) (hb : b < w.heap.size) :
    Calls Try.prog 104 #[.agg #[.int .i64 n2, v], .pointer (some ⟨b, 0, none⟩)] w fun e w' => e = .returned (.bool (decide (n2 = num))) ∧ Below w.heap.size w w' := by
  cases h : decide (n2 = num)
  · have h' : (n2 == num) = false := beq_eq_false_iff_ne.mpr (of_decide_eq_false h)
    go_enter Try.func104, Try.ntmps104
    go_wp2_with fail
    go_ret
    exact ⟨rfl, by (repeat (first | (with_reducible exact Below.refl _ _) | (with_reducible assumption) | (with_reducible apply below_drewN) | (with_reducible apply Below.drew) | ((with_reducible refine Below.setCell ?_ ?_ _); rotate_left; focus (first | (simp; done) | (simp; omega) | omega)) | ((with_reducible refine Below.alloc ?_ ?_ _); rotate_left; focus (first | (simp; done) | (simp; omega) | omega))))⟩
  · have h' : n2 = num := of_decide_eq_true h
    go_enter Try.func104, Try.ntmps104
    go_wp2_with fail
    go_ret
    exact ⟨rfl, by (repeat (first | (with_reducible exact Below.refl _ _) | (with_reducible assumption) | (with_reducible apply below_drewN) | (with_reducible apply Below.drew) | ((with_reducible refine Below.setCell ?_ ?_ _); rotate_left; focus (first | (simp; done) | (simp; omega) | omega)) | ((with_reducible refine Below.alloc ?_ ?_ _); rotate_left; focus (first | (simp; done) | (simp; omega) | omega))))⟩

set_option maxRecDepth 4000 in
set_option maxHeartbeats 1000000 in
theorem idxAlike_any (num : Int) (b : Nat) (q : Option Addr) (qc : Nat) (l : List Pg) (w : World) (hc : w.cell? ⟨b, 0, none⟩ = some (.int .i64 num)) (hb : b < w.heap.size) (hr : RowP w q l) (hl : l.length ≤ 1048576) :
    Calls Try.prog 139 #[.slice q l.length qc, .func (.func 104) #[] #[.pointer (some ⟨b, 0, none⟩)]] w fun e w' => (∃ i : Int, e = .returned (.int .i64 i) ∧ decide (0 ≤ i) = l.any fun q => decide (q.num = num)) ∧ Below w.heap.size w w' := by
  have HR : Hid (RowP _ _ _) := hr
  clear hr
  obtain ⟨P, hP0⟩ : ∃ P : Pg → Bool, P = fun q => decide (q.num = num) := ⟨_, rfl⟩
  rw [← hP0]
  have HP0 : Hid _ := hP0
  clear hP0
  go_enter Try.func139, Try.ntmps139
  go_wp2_with fail
  go_loopw [8] (fun i wr => ∃ k : Nat, k ≤ l.length ∧ i = .int .i64 k ∧ (∀ u ∈ l.take k, P u = false) ∧ Below w.heap.size w wr) (fun i _ => l.length - (intOf i).toNat)
  case atStart => exact ⟨0, Nat.zero_le _, rfl, fun u hu => by simp at hu, Below.refl _ _⟩
  case round =>
    obtain ⟨k, hk, rfl, hall, hbel⟩ := hrel
    have HA : Hid _ := hall
    clear hall
    by_cases hlt : k < l.length
    · rcases HR.out.next hbel with h0 | ⟨g, rfl, R⟩
      · subst h0; simp at hlt
      obtain ⟨x0, pa, ca, x1, _⟩ := R.cells k hlt
      have hlt2 : (k : Int) < (l.length : Int) := by omega
      have HK0 := isAlike_any num l[k].num (.slice pa l[k].es.length ca) b wr ((hbel.cell hb).trans hc) (Nat.lt_of_lt_of_le hb hbel.size)
      have hPk : P l[k] = decide (l[k].num = num) := by rw [HP0.out]
      rw [← hPk] at HK0
      cases hP : P l[k]
      · rw [hP] at HK0
        have HK : Hid (Calls _ _ _ _ _) := HK0
        have HPK : Hid _ := hP
        clear R hP HK0 hPk
        go_wp2_with fail
        refine HK.out.mono ?_
        rintro e w1 ⟨rfl, hb1⟩
        have hb2 := hbel.trans (hb1.mono hbel.size)
        clear hb1 HK
        go_wp2_with fail
        go_roundw
        case rel =>
          refine ⟨k + 1, by omega, by go_num, ?_, hb2⟩
          intro u hu
          rw [List.take_succ_eq_append_getElem hlt] at hu
          rcases List.mem_append.mp hu with h | h
          · exact HA.out u h
          · simp at h; subst h; exact HPK.out
        case measure => simp [intOf]; omega
      · rw [hP] at HK0
        have HK : Hid (Calls _ _ _ _ _) := HK0
        have hal : l.any P = true := List.any_eq_true.mpr ⟨l[k], List.getElem_mem _, hP⟩
        have HL : Hid _ := hal
        clear R hP HK0 hal hPk
        go_wp2_with fail
        refine HK.out.mono ?_
        rintro e w1 ⟨rfl, hb1⟩
        have hb2 := hbel.trans (hb1.mono hbel.size)
        clear hb1 HK
        go_wp2_with fail
        go_ret
        exact ⟨⟨k, rfl, by rw [HL.out]; exact decide_eq_true (by omega)⟩, hb2⟩
    · have hlt2 : ¬ (k : Int) < (l.length : Int) := by omega
      have hal : l.any P = false := by
        rw [Bool.eq_false_iff]; intro hh
        obtain ⟨u, hu, he⟩ := List.any_eq_true.mp hh
        have := HA.out u (by rw [List.take_of_length_le (by omega)]; exact hu)
        rw [this] at he; cases he
      have HL : Hid _ := hal
      clear hal
      go_wp2_with fail
      go_ret
      exact ⟨⟨-1, rfl, by rw [HL.out]; rfl⟩, hbel⟩
set_option maxRecDepth 4000 in
set_option maxHeartbeats 1000000 in
theorem conAlike_any (num : Int) (b : Nat) (q : Option Addr) (qc : Nat) (l : List Pg) (w : World) (hc : w.cell? ⟨b, 0, none⟩ = some (.int .i64 num)) (hb : b < w.heap.size) (hr : RowP w q l) (hl : l.length ≤ 1048576) :
    Calls Try.prog 105 #[.slice q l.length qc, .func (.func 104) #[] #[.pointer (some ⟨b, 0, none⟩)]] w fun e w' => e = .returned (.bool (l.any fun q => decide (q.num = num))) ∧ Below w.heap.size w w' := by
  have HC : Hid (Calls _ _ _ _ _) := idxAlike_any num b q qc l w hc hb hr hl
  clear hr hc
  go_enter Try.func105, Try.ntmps105
  go_wp2_with fail
  refine HC.out.mono ?_
  rintro e w1 ⟨⟨i, rfl, hi⟩, hb⟩
  go_wp2_with fail
  go_ret
  rw [← hi]
  exact ⟨rfl, hb⟩

theorem numB_def (next : Int) (pre : List Pg) (p : Pg) : numB next pre p = (decide (1 ≤ p.num) && (decide (p.num < next) && !(pre.any fun q => decide (q.num = p.num)))) := rfl
theorem ReadP.take {w : World} {g : Nat} {f : List Pg} (h : ReadP w g f) (k : Nat) : ReadP w g (f.take k) :=
  ⟨h.lt, fun i hi => by
    have h1 : i < f.length := by simp at hi; omega
    have := h.cells i h1
    simpa using this⟩
set_option maxRecDepth 4000 in
set_option maxHeartbeats 1000000 in
theorem numbersFit_any (p : Option Addr) (cap : Nat) (f : List Pg) (next : Int) (w : World) (hr : RowP w p f) (hl : f.length ≤ 1048576) (hcap : f.length ≤ cap) :
    Calls Try.prog 61 #[.slice p f.length cap, .int .i64 next] w fun e w' => e = .returned (.bool (numsB next [] f)) ∧ Below w.heap.size w w' := by
  have HR : Hid (RowP _ _ _) := hr
  clear hr
  obtain ⟨R, hR⟩ : ∃ R, R = numsB next [] f := ⟨_, rfl⟩
  rw [← hR]
  have HRR : Hid _ := hR
  clear hR
  go_enter Try.func61, Try.ntmps61
  go_wp2_with fail
  go_loopw [10] (fun i wr => ∃ k : Nat, k ≤ f.length ∧ i = .int .i64 k ∧ R = numsB next (f.take k) (f.drop k) ∧ Below w.heap.size w wr) (fun i _ => f.length - (intOf i).toNat)
  case atStart => exact ⟨0, Nat.zero_le _, rfl, HRR.out, Below.refl _ _⟩
  case round =>
    obtain ⟨k, hk, rfl, hall, hbel⟩ := hrel
    have HA : Hid _ := hall
    clear hall
    by_cases hlt : k < f.length
    · rcases HR.out.next hbel with h0 | ⟨g, rfl, R1⟩
      · subst h0; simp at hlt
      obtain ⟨x0, pa, ca, x1, t1⟩ := R1.cells k hlt
      have hlt2 : (k : Int) < (f.length : Int) := by omega
      have hk3 : (k : Int) ≤ (cap : Int) := by omega
      have hz := hbel.size
      have R2 : RowP wr (some ⟨g, 0, none⟩) (f.take k) := .inr ⟨g, rfl, R1.take k⟩
      have hlen : (f.take k).length = k := by simp; omega
      have hb0 : Below wr.heap.size wr (wr.alloc (.cells #[.int .i64 f[k].num, .slice pa f[k].es.length ca] 86)) := (Below.refl _ _).alloc (Nat.le_refl _) _
      have HC0 := conAlike_any f[k].num wr.heap.size (some ⟨g, 0, none⟩) cap (f.take k) (wr.alloc (.cells #[.int .i64 f[k].num, .slice pa f[k].es.length ca] 86)) (by simp [go_sem]) (by simp) (R2.next hb0) (by omega)
      rw [hlen] at HC0
      have hbA := hbel.trans (hb0.mono hbel.size)
      have hcons : R = (numB next (f.take k) f[k] && numsB next (f.take (k + 1)) (f.drop (k + 1))) := HA.out.trans (by rw [drop_cons f k hlt, numsB_cons, List.take_succ_eq_append_getElem hlt])
      rw [numB_def] at hcons
      clear R1 t1 R2 hlen
      by_cases h1 : 1 ≤ f[k].num
      · rw [decide_eq_true h1, Bool.true_and] at hcons
        have h1' : ¬ f[k].num < 1 := by omega
        by_cases h2 : f[k].num < next
        · rw [decide_eq_true h2, Bool.true_and] at hcons
          have h2' : ¬ next ≤ f[k].num := by omega
          cases hP : (f.take k).any fun q => decide (q.num = f[k].num)
          · rw [hP] at HC0 hcons
            have HC : Hid (Calls _ _ _ _ _) := HC0
            have HN : Hid (R = _) := hcons
            clear hP HC0 hcons h1 h2
            go_wp2_with fail
            refine HC.out.mono ?_
            rintro e w1 ⟨rfl, hb1⟩
            have hb2 := hbA.trans (hb1.mono hbA.size)
            clear hb1 HC hbA hb0
            go_wp2_with fail
            go_roundw
            case rel => exact ⟨k + 1, by omega, by go_num, HN.out, hb2⟩
            case measure => simp [intOf]; omega
          · rw [hP] at HC0 hcons
            have HC : Hid (Calls _ _ _ _ _) := HC0
            have HN : Hid (R = false) := hcons
            clear hP HC0 hcons h1 h2
            go_wp2_with fail
            refine HC.out.mono ?_
            rintro e w1 ⟨rfl, hb1⟩
            have hb2 := hbA.trans (hb1.mono hbA.size)
            clear hb1 HC hbA hb0
            go_wp2_with fail
            go_ret
            exact ⟨by rw [HN.out]; rfl, hb2⟩
        · rw [decide_eq_false h2, Bool.false_and, Bool.false_and] at hcons
          have h2' : next ≤ f[k].num := by omega
          have HN : Hid (R = false) := hcons
          clear hcons HC0 h1 h2
          go_wp2_with fail
          go_ret
          exact ⟨by rw [HN.out]; rfl, hbA⟩
      · rw [decide_eq_false h1, Bool.false_and, Bool.false_and] at hcons
        have h1' : f[k].num < 1 := by omega
        have HN : Hid (R = false) := hcons
        clear hcons HC0 h1
        go_wp2_with fail
        go_ret
        exact ⟨by rw [HN.out]; rfl, hbA⟩
    · have hlt2 : ¬ (k : Int) < (f.length : Int) := by omega
      have HT : Hid (R = true) := HA.out.trans (by rw [List.drop_of_length_le (by omega)]; rfl)
      go_wp2_with fail
      go_ret
      exact ⟨by rw [HT.out]; rfl, hbel⟩

end Go.Proofs.Ytnmpfooegnmknaa.Tr
