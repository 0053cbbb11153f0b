/- What the specification's source of drawn numbers answers: a number within its bounds; of what lay there, the source alone has changed. -/
import Derived.Test.YtmchpaccdnnilaaLawB
import Derived.Maps.AppendAt
import Derived.Deep.QuietTactic
import Derived.BigQuiet
import Derived.Test.YtmchpaccdnnilaaRowV
import Derived.Test.YtmchpaccdnnilaaDepthM
import Derived.Test.YtmchpaccdnnilaaCodec
import Derived.Test.YtmchpaccdnnilaaRowF
import Derived.Maps.Range
namespace Go.Proofs.Ytmchpaccdnnilaa
open Go.RowKit
set_option linter.unusedVariables false

/-- Bytes in a block other than g. -/
structure CodeAt (w : World) (g : Nat) (x : Option Addr) (zs : List Int) : Prop where
  inb : zs.length = 0 ∨ ∃ b off, x = some ⟨b, off, none⟩ ∧ b ≠ g ∧ b < w.heap.size ∧ ∀ i, i < zs.length → w.cell? ⟨b, off + i, none⟩ = some (.int .u8 (zs.getD i 0))
  bytes : ∀ i, i < zs.length → 0 ≤ zs.getD i 0 ∧ zs.getD i 0 < 256
  len : zs.length ≤ 1048576
/-- A source stands at block g: its bytes, how far it has read (at most a), its seed. -/
structure SrcAt (w : World) (g : Nat) (x : Option Addr) (cap : Nat) (zs : List Int) (a : Nat) : Prop where
  block : ∃ k s : Nat, k ≤ a ∧ s < 2147483648 ∧ w.heap[g]? = some (.cells #[.slice x zs.length cap, .int .i64 k, .int .i64 s] 65)
  code : CodeAt w g x zs
theorem CodeAt.next {w w' : World} {g : Nat} {x : Option Addr} {zs : List Int} (h : CodeAt w g x zs) (hg : w.grownBy w' (some g)) : CodeAt w' g x zs := by
  refine ⟨?_, h.bytes, h.len⟩
  rcases h.inb with h0 | ⟨b, off, hx, hne, hlt, hc⟩
  · exact .inl h0
  · exact .inr ⟨b, off, hx, hne, Nat.lt_of_lt_of_le hlt hg.size, fun i hi => hg.cell (hc i hi) (by intro e; injection e with e; exact hne e)⟩
theorem SrcAt.lt {w : World} {g : Nat} {x : Option Addr} {cap : Nat} {zs : List Int} {a : Nat} (h : SrcAt w g x cap zs a) : g < w.heap.size := by
  obtain ⟨k, s, _, _, hh⟩ := h.block
  exact (Array.getElem?_eq_some_iff.1 hh).1
theorem SrcAt.mono {w : World} {g : Nat} {x : Option Addr} {cap : Nat} {zs : List Int} {a b : Nat} (h : SrcAt w g x cap zs a) (hab : a ≤ b) : SrcAt w g x cap zs b := by
  obtain ⟨k, s, h1, h2, h3⟩ := h.block
  exact ⟨⟨k, s, Nat.le_trans h1 hab, h2, h3⟩, h.code⟩
theorem grown_set {w : World} {g o : Nat} {v : Value} : w.grownBy (w.setCell ⟨g, o, none⟩ v) (some g) := by
  refine ⟨rfl, rfl, rfl, by simp [World.setCell], ?_⟩
  intro k hk hne
  have : g ≠ k := fun e => hne (by rw [e])
  simp [World.setCell, Array.getElem?_modify, this]
theorem set_block {w : World} {g o : Nat} {v : Value} {c : Array Value} {T : TypeId} (h : w.heap[g]? = some (.cells c T)) : (w.setCell ⟨g, o, none⟩ v).heap[g]? = some (.cells (c.setIfInBounds o v) T) := by
  simp [World.setCell, Array.getElem?_modify, h]

theorem drewN_heap (w : World) : ∀ n, (w.drewN n).heap = w.heap ∧ (w.drewN n).os = w.os ∧ (w.drewN n).tape = w.tape ∧ (w.drewN n).output = w.output := by
  intro n
  exact ⟨rfl, rfl, rfl, rfl⟩
theorem grown_drewN (w : World) (n : Nat) (row : Option Nat) : w.grownBy (w.drewN n) row := by
  obtain ⟨h1, h2, h3, h4⟩ := drewN_heap w n
  exact ⟨h2, h3, h4, by rw [h1]; exact Nat.le_refl _, fun k _ _ => by rw [h1]⟩
/-- A source behind a step. -/
theorem SrcAt.done {w2 : World} {g : Nat} {x : Option Addr} {cap : Nat} {zs : List Int} {a : Nat} (k s : Int) (h0 : 0 ≤ k) (h1 : k ≤ a) (h2 : 0 ≤ s) (h3 : s < 2147483648) (hh : w2.heap[g]? = some (.cells #[.slice x zs.length cap, .int .i64 k, .int .i64 s] 65)) (hc : CodeAt w2 g x zs) : SrcAt w2 g x cap zs a :=
  ⟨⟨k.toNat, s.toNat, by omega, by omega, by rw [hh, Int.toNat_of_nonneg h0, Int.toNat_of_nonneg h2]⟩, hc⟩
theorem byte_ret {z : Int} (h0 : 0 ≤ z) (h1 : z < 256) : ∃ n : Nat, Ending.returned (.int .i64 z) = .returned (.int .i64 n) ∧ n < 256 := ⟨z.toNat, by rw [Int.toNat_of_nonneg h0], by omega⟩

set_option maxRecDepth 4000 in
set_option maxHeartbeats 1000000 in
theorem byte_any (g : Nat) (x : Option Addr) (cap : Nat) (zs : List Int) (a : Nat) (w : World) (h : SrcAt w g x cap zs a) (ha : a ≤ 1000000) :
    Calls Try.prog 70 #[.pointer (some ⟨g, 0, none⟩)] w fun e w' => (∃ z : Nat, e = .returned (.int .i64 z) ∧ z < 256) ∧ w.grownBy w' (some g) ∧ SrcAt w' g x cap zs (a + 1) := by
  obtain ⟨k, s, hk, hs, hh⟩ := h.block
  have hl := h.code.len
  have hlt := h.lt
  have c0 : w.cell? ⟨g, 0, none⟩ = some (.slice x zs.length cap) := by simp [World.cell?, hh]
  have c1 : w.cell? ⟨g, 1, none⟩ = some (.int .i64 k) := by simp [World.cell?, hh]
  have f0 : w.frozen? ⟨g, 1, none⟩ = false := by simp [World.frozen?, hh]
  obtain ⟨w1, hw1⟩ : ∃ w1, w1 = w.setCell ⟨g, 1, none⟩ (.int .i64 ((k : Int) + 1)) := ⟨_, rfl⟩
  have hh1 : w1.heap[g]? = some (.cells #[.slice x zs.length cap, .int .i64 ((k : Int) + 1), .int .i64 s] 65) := by rw [hw1]; exact set_block hh
  have hg1 : w.grownBy w1 (some g) := by rw [hw1]; exact grown_set
  have hlt1 : g < w1.heap.size := Nat.lt_of_lt_of_le hlt hg1.size
  have d0 : w1.cell? ⟨g, 0, none⟩ = some (.slice x zs.length cap) := by simp [World.cell?, hh1]
  have d1 : w1.cell? ⟨g, 1, none⟩ = some (.int .i64 ((k : Int) + 1)) := by simp [World.cell?, hh1]
  have d2 : w1.cell? ⟨g, 2, none⟩ = some (.int .i64 s) := by simp [World.cell?, hh1]
  have f2 : w1.frozen? ⟨g, 2, none⟩ = false := by simp [World.frozen?, hh1]
  have C1 := h.code.next hg1
  have HH1 : Hid _ := hh1
  have HG1 : Hid (World.grownBy _ _ _) := hg1
  have HW1 : Hid (_ = _) := hw1
  have HC1 : Hid (CodeAt _ _ _ _) := C1
  clear h hh hh1 hg1 hw1 C1
  go_enter Try.func70, Try.ntmps70
  go_wp2_with fail
  rw [← HW1.out]
  clear c0 c1 f0 HW1
  by_cases h1 : k < zs.length
  · have hb := HC1.out.bytes k h1
    rcases HC1.out.inb with h0 | ⟨b, off, rfl, hne, hbl, hcc⟩
    · omega
    have cb := hcc k h1
    obtain ⟨z, hz⟩ : ∃ z, z = zs.getD k 0 := ⟨_, rfl⟩
    rw [← hz] at hb cb
    obtain ⟨hb0, hb1⟩ := hb
    have HCC : Hid _ := hcc
    clear hcc hz
    go_quiet (fail)
    have e1 : decide ((k : Int) + 1 ≤ (zs.length : Int)) = true := decide_eq_true (by omega)
    rw [e1]
    clear e1
    go_wp2_with fail
    go_region
    obtain ⟨w2, hw2⟩ : ∃ w2, w2 = (w1.drewN (nq + 1)).setCell ⟨g, 2, none⟩ (.int .i64 (((s : Int) * 31 + z + 7) % 2147483648)) := ⟨_, rfl⟩
    have hh2 : w2.heap[g]? = some (.cells #[.slice (some ⟨b, off, none⟩) zs.length cap, .int .i64 ((k : Int) + 1), .int .i64 (((s : Int) * 31 + z + 7) % 2147483648)] 65) := by rw [hw2]; exact set_block (w := w1.drewN (nq + 1)) HH1.out
    have hg2 : w1.grownBy w2 (some g) := by rw [hw2]; exact (grown_drewN _ _ _).trans grown_set
    rw [← hw2]
    have e0 : w2.cell? ⟨g, 0, none⟩ = some (.slice (some ⟨b, off, none⟩) zs.length cap) := by simp [World.cell?, hh2]
    have e1 : w2.cell? ⟨g, 1, none⟩ = some (.int .i64 ((k : Int) + 1)) := by simp [World.cell?, hh2]
    have eb : w2.cell? ⟨b, off + k, none⟩ = some (.int .u8 z) := hg2.cell cb (by intro e; injection e with e; exact hne e)
    have C2 := HC1.out.next hg2
    have HH2 : Hid _ := hh2
    have HG2 : Hid (World.grownBy _ _ _) := hg2
    have HC2 : Hid (CodeAt _ _ _ _) := C2
    clear d0 d1 d2 f2 cb hw2 hh2 hg2 C2
    go_wp2_with fail
    go_quiet (fail)
    go_wp2_with fail
    go_ret
    exact ⟨byte_ret (by omega) (by omega), HG1.out.trans (HG2.out.trans (grown_drewN _ _ _)), SrcAt.done ((k : Int) + 1) (((s : Int) * 31 + z + 7) % 2147483648) (by omega) (by omega) (by omega) (by omega) (by rw [(drewN_heap w2 _).1]; exact HH2.out) (HC2.out.next (grown_drewN _ _ _))⟩
  · by_cases h2 : 3000 < k + 1
    · go_quiet (fail)
      have e1 : decide ((k : Int) + 1 ≤ (zs.length : Int)) = false := decide_eq_false (by omega)
      rw [e1]
      have e2 : (3000 : Int) < (k : Int) + 1 := by omega
      clear h1 h2 e1
      go_wp2_with fail
      go_ret
      exact ⟨byte_ret (z := 0) (by omega) (by omega), HG1.out.trans (grown_drewN _ _ _), SrcAt.done ((k : Int) + 1) s (by omega) (by omega) (by omega) (by omega) (by rw [(drewN_heap w1 nq).1]; exact HH1.out) (HC1.out.next (grown_drewN _ _ _))⟩
    · go_quiet (fail)
      have e1 : decide ((k : Int) + 1 ≤ (zs.length : Int)) = false := decide_eq_false (by omega)
      rw [e1]
      have e2 : ¬ (3000 : Int) < (k : Int) + 1 := by omega
      clear h1 h2 e1
      go_wp2_with fail
      go_ret
      exact ⟨byte_ret (by omega) (by omega), HG1.out.trans ((grown_drewN _ _ _).trans grown_set), SrcAt.done ((k : Int) + 1) ((((s : Int) * 1103515245 + 12345)) % 2147483648) (by omega) (by omega) (by omega) (by omega) (set_block (w := w1.drewN nq) HH1.out) (HC1.out.next ((grown_drewN _ _ _).trans grown_set))⟩

/-- A source's step: a number below n, all else as it was. -/
def Drew (w : World) (g : Nat) (x : Option Addr) (cap : Nat) (zs : List Int) (a : Nat) (w' : World) : Prop := w.grownBy w' (some g) ∧ SrcAt w' g x cap zs a
theorem Drew.trans {w w1 w2 : World} {g : Nat} {x : Option Addr} {cap : Nat} {zs : List Int} {a b : Nat} (h : Drew w g x cap zs a w1) (k : Drew w1 g x cap zs b w2) : Drew w g x cap zs b w2 := ⟨h.1.trans k.1, k.2⟩

set_option maxRecDepth 4000 in
set_option maxHeartbeats 1000000 in
theorem next_any (g : Nat) (x : Option Addr) (cap : Nat) (zs : List Int) (a n : Nat) (w : World) (h : SrcAt w g x cap zs a) (ha : a ≤ 1000000) (h0 : 1 < n) (h1 : n ≤ 256) :
    Calls Try.prog 37 #[.pointer (some ⟨g, 0, none⟩), .int .i64 n] w fun e w' => (∃ z : Nat, e = .returned (.int .i64 z) ∧ z < n) ∧ Drew w g x cap zs (a + 1) w' := by
  have HB : Hid (Calls _ _ _ _ _) := byte_any g x cap zs a w h ha
  clear h
  have e1 : ¬ (n : Int) ≤ 1 := by omega
  have e2 : (n : Int) ≤ 256 := by omega
  go_enter Try.func37, Try.ntmps37
  go_wp2_with fail
  refine HB.out.mono ?_
  rintro e w1 ⟨⟨z, rfl, hz⟩, hd⟩
  have HD : Hid _ := hd
  clear hd
  go_wp2_with fail
  go_ret
  exact ⟨⟨z % n, rfl, Nat.mod_lt _ (by omega)⟩, HD.out⟩

set_option maxRecDepth 4000 in
set_option maxHeartbeats 1000000 in
theorem chance_any (g : Nat) (x : Option Addr) (cap : Nat) (zs : List Int) (a n : Nat) (w : World) (h : SrcAt w g x cap zs a) (ha : a ≤ 1000000) (h0 : 1 < n) (h1 : n ≤ 256) :
    Calls Try.prog 72 #[.pointer (some ⟨g, 0, none⟩), .int .i64 n] w fun e w' => (∃ b : Bool, e = .returned (.bool b)) ∧ Drew w g x cap zs (a + 1) w' := by
  have HB : Hid (Calls _ _ _ _ _) := next_any g x cap zs a n w h ha h0 h1
  clear h
  go_enter Try.func72, Try.ntmps72
  go_wp2_with fail
  refine HB.out.mono ?_
  rintro e w1 ⟨⟨z, rfl, hz⟩, hd⟩
  have HD : Hid (Drew _ _ _ _ _ _ _) := hd
  clear hd
  go_wp2_with fail
  go_ret
  exact ⟨⟨_, rfl⟩, HD.out⟩

set_option maxRecDepth 4000 in
set_option maxHeartbeats 1000000 in
theorem pick_any (g : Nat) (x : Option Addr) (cap : Nat) (zs : List Int) (a b c : Nat) (l : List ByteArray) (w : World) (h : SrcAt w g x cap zs a) (ha : a ≤ 1000000) (h0 : 1 < l.length) (h1 : l.length ≤ 256) (hne : b ≠ g)
    (hl : ∀ i (hi : i < l.length), w.cell? ⟨b, i, none⟩ = some (.string l[i])) :
    Calls Try.prog 40 #[.pointer (some ⟨g, 0, none⟩), .slice (some ⟨b, 0, none⟩) l.length c] w fun e w' => (∃ t ∈ l, e = .returned (.string t)) ∧ Drew w g x cap zs (a + 1) w' := by
  have HB : Hid (Calls _ _ _ _ _) := next_any g x cap zs a l.length w h ha h0 h1
  have HL : Hid _ := hl
  clear h hl
  go_enter Try.func40, Try.ntmps40
  go_wp2_with fail
  refine HB.out.mono ?_
  rintro e w1 ⟨⟨z, rfl, hz⟩, hd⟩
  have hc := hd.1.cell (HL.out z hz) (by intro e; injection e with e; exact hne e)
  have HD : Hid (Drew _ _ _ _ _ _ _) := hd
  clear hd
  go_wp2_with fail
  go_ret
  exact ⟨⟨l[z], List.getElem_mem _, rfl⟩, HD.out⟩

end Go.Proofs.Ytmchpaccdnnilaa

/- A value as the program holds it. -/
namespace Go.Proofs.Ytmchpaccdnnilaa
open Go.RowKit

abbrev aggV (v : Val) : Value := .agg #[.int .i64 v.k, .int .i64 v.n, .string v.t]

end Go.Proofs.Ytmchpaccdnnilaa

/- A right value fits a depth just if it is no deeper; lists and documents made of right values; nothing of the program is used here. -/
namespace Go.Proofs.Ytmchpaccdnnilaa
open Go.RowKit
set_option linter.unusedVariables false

theorem dmax_le (p : Val → Int) (l : List Val) (d : Int) (hd : 0 ≤ d) : dmax p l ≤ d ↔ ∀ v ∈ l, p v ≤ d := by
  suffices h : ∀ (l : List Val) (n : Int), n ≤ d → (l.foldl (fun n v => max n (p v)) n ≤ d ↔ ∀ v ∈ l, p v ≤ d) by
    exact h l 0 hd
  intro l
  induction l with
  | nil => intro n hn; simp [hn]
  | cons v l ih =>
    intro n hn
    rw [List.foldl_cons]
    by_cases hv : p v ≤ d
    · rw [ih (max n (p v)) (by omega)]; simp [hv]
    · constructor
      · intro h
        exfalso
        have hm : ∀ (l : List Val) (n : Int), n ≤ l.foldl (fun n v => max n (p v)) n := by
          intro l
          induction l with
          | nil => intro n; exact Int.le_refl _
          | cons u l ih2 => intro n; exact Int.le_trans (by omega) (ih2 (max n (p u)))
        have := hm l (max n (p v))
        omega
      · intro h; exact absurd (h v (by simp)) hv
theorem dmax_congr (p q : Val → Int) (l : List Val) (h : ∀ v ∈ l, p v = q v) : dmax p l = dmax q l := by
  unfold dmax
  suffices hh : ∀ (l : List Val) (n : Int), (∀ v ∈ l, p v = q v) → l.foldl (fun n v => max n (p v)) n = l.foldl (fun n v => max n (q v)) n by exact hh l 0 h
  intro l
  induction l with
  | nil => intro n _; rfl
  | cons v l ih => intro n hv; rw [List.foldl_cons, List.foldl_cons, hv v (by simp)]; exact ih _ (fun u hu => hv u (by simp [hu]))
theorem rise_swap (p q : Val → Bool) : ∀ (l : List Fld) (m : ByteArray), riseAll p m l = true → (∀ f ∈ l, q f.v = true) → riseAll q m l = true
  | [], _, _, _ => rfl
  | f :: l, m, h, hq => by
    simp only [riseAll, Bool.and_eq_true] at h ⊢
    exact ⟨⟨h.1.1, hq f (by simp)⟩, rise_swap p q l _ h.2 (fun g hg => hq g (by simp [hg]))⟩
/-- At a greater depth the same values fit, and their depth is told the same. -/
theorem fits_depth : ∀ (d : Nat) (v : Val), fits d v = true → ∀ e, d ≤ e → fits e v = true ∧ depthV e v = depthV d v
  | d, v, h, e, hde => by
    by_cases h4 : v.k = 4
    · obtain ⟨d', l, rfl, hi, hn, hs, hall⟩ := fits_items h4 h
      obtain ⟨e', rfl⟩ : ∃ e', e = e' + 1 := ⟨e - 1, by omega⟩
      have ih : ∀ u ∈ l, fits e' u = true ∧ depthV e' u = depthV d' u := fun u hu => fits_depth d' u (hall u hu).1 e' (by omega)
      constructor
      · rw [fits_list e' v h4, hi, Bool.and_eq_true, decide_eq_true_eq]
        exact ⟨⟨hn, hs⟩, by simp only [itemsAll, List.all_eq_true]; exact fun u hu => (ih u hu).1⟩
      · rw [depthV_list e' v l h4 hi, depthV_list d' v l h4 hi]
        congr 1
        exact dmax_congr _ _ l (fun u hu => (ih u hu).2)
    · by_cases h5 : v.k = 5
      · obtain ⟨d', l, rfl, hi, hn, hs, hr, hall⟩ := fits_fields h5 h
        obtain ⟨e', rfl⟩ : ∃ e', e = e' + 1 := ⟨e - 1, by omega⟩
        have ih : ∀ f ∈ l, fits e' f.v = true ∧ depthV e' f.v = depthV d' f.v := fun f hf => fits_depth d' f.v (hall f hf).1 e' (by omega)
        constructor
        · rw [fits_doc e' v h5, hi, Bool.and_eq_true, decide_eq_true_eq]
          exact ⟨⟨hn, hs⟩, rise_swap _ _ l em hr (fun f hf => (ih f hf).1)⟩
        · rw [depthV_doc e' v l h5 hi, depthV_doc d' v l h5 hi]
          unfold dF
          congr 1
          exact dmax_congr _ _ _ (fun u hu => by
            obtain ⟨f, hf, rfl⟩ := List.mem_map.mp hu
            exact (ih f hf).2)
      · rw [fits_base d v h4 h5] at h
        exact ⟨by rw [fits_base e v h4 h5]; exact h, by rw [depthV_plain e v h4 h5, depthV_plain d v h4 h5]⟩

/-- A right value that is no deeper than d fits d. -/
theorem fits_of_depth : ∀ (e d : Nat) (v : Val), fits e v = true → depthV e v ≤ d → fits d v = true
  | e, d, v, h, hd => by
    by_cases hed : e ≤ d
    · exact (fits_depth e v h d hed).1
    · by_cases h4 : v.k = 4
      · obtain ⟨e', l, rfl, hi, hn, hs, hall⟩ := fits_items h4 h
        rw [depthV_list e' v l h4 hi] at hd
        have h0 := (dmax_bd (depthV e') e' (by omega) (depthV_bd e') l).1
        obtain ⟨d', rfl⟩ : ∃ d', d = d' + 1 := ⟨d - 1, by omega⟩
        have hle := (dmax_le (depthV e') l d' (by omega)).mp (by omega)
        rw [fits_list d' v h4, hi, Bool.and_eq_true, decide_eq_true_eq]
        exact ⟨⟨hn, hs⟩, by simp only [itemsAll, List.all_eq_true]; exact fun u hu => fits_of_depth e' d' u (hall u hu).1 (hle u hu)⟩
      · by_cases h5 : v.k = 5
        · obtain ⟨e', l, rfl, hi, hn, hs, hr, hall⟩ := fits_fields h5 h
          rw [depthV_doc e' v l h5 hi] at hd
          unfold dF at hd
          have h0 := (dmax_bd (depthV e') e' (by omega) (depthV_bd e') (l.map Fld.v)).1
          obtain ⟨d', rfl⟩ : ∃ d', d = d' + 1 := ⟨d - 1, by omega⟩
          have hle := (dmax_le (depthV e') (l.map Fld.v) d' (by omega)).mp (by omega)
          rw [fits_doc d' v h5, hi, Bool.and_eq_true, decide_eq_true_eq]
          exact ⟨⟨hn, hs⟩, rise_swap _ _ l em hr (fun f hf => fits_of_depth e' d' f.v (hall f hf).1 (hle f.v (List.mem_map.mpr ⟨f, hf, rfl⟩)))⟩
        · rw [fits_base e v h4 h5] at h
          rw [fits_base d v h4 h5]; exact h
/-- **A list made of right values is right just if none of them is too deep.** -/
theorem list_made (l : List Val) (hall : ∀ v ∈ l, okB v = true) (hs : (l.flatMap encB).length ≤ 300) :
    okB ⟨4, 0, txt (l.flatMap encB)⟩ = decide (dmax (depthV 5) l ≤ 4) := by
  have hsz : (txt (l.flatMap encB)).size ≤ 300 := by rw [txt_size]; exact hs
  unfold okB
  rw [fits_list 4 _ rfl]
  show (decide ((0 : Int) = 0 ∧ (txt (l.flatMap encB)).size ≤ 300) && itemsAll (fits 4) (items (txt (l.flatMap encB)))) = _
  rw [items_enc l hall, decide_eq_true ⟨rfl, hsz⟩, Bool.true_and]
  rw [Bool.eq_iff_iff, decide_eq_true_eq, dmax_le (depthV 5) l 4 (by omega)]
  simp only [itemsAll, List.all_eq_true]
  constructor
  · intro h v hv
    have h1 := fits_depth 4 v (h v hv) 5 (by omega)
    have h2 := (depthV_bd 4 v).2
    rw [h1.2]; exact_mod_cast h2
  · intro h v hv
    exact fits_of_depth 5 4 v (hall v hv) (by exact_mod_cast h v hv)

def encF (f : Fld) : List Int := numB f.name.size 1 ++ bytesI f.name ++ encB f.v
theorem cutF_enc (f : Fld) (h : okB f.v = true) (hn : f.name.size < 256) (r : List Int) : cutF (txt (encF f ++ r)) = some (f, txt r) := by
  unfold cutF encF
  rw [List.append_assoc (numB _ 1 ++ bytesI f.name), cutT_txt 1 f.name _ (by omega)]
  simp only [cutV_enc f.v h r]
  rfl
theorem fields_enc : ∀ (l : List Fld), (∀ f ∈ l, okB f.v = true ∧ f.name.size < 256) → fields (txt (l.flatMap encF)) = some l
  | [], _ => fields_nil (by rw [txt_size]; rfl)
  | f :: l, h => by
    rw [List.flatMap_cons, fields_cons (cutF_enc f (h f (by simp)).1 (h f (by simp)).2 _), fields_enc l (fun u hu => h u (by simp [hu]))]; rfl
/-- **A document made of right values under short names that rise is right just if none of them is too deep.** -/
theorem doc_made (l : List Fld) (hall : ∀ f ∈ l, okB f.v = true) (hr : riseAll (fun _ => true) em l = true) (hs : (l.flatMap encF).length ≤ 300) :
    okB ⟨5, 0, txt (l.flatMap encF)⟩ = decide (dF (depthV 5) l ≤ 4) := by
  have hsz : (txt (l.flatMap encF)).size ≤ 300 := by rw [txt_size]; exact hs
  have hnm : ∀ f ∈ l, okB f.v = true ∧ f.name.size < 256 := fun f hf => ⟨hall f hf, by
    have := (rise_all _ l em hr f hf).1
    unfold shortB at this
    rw [Bool.and_eq_true, decide_eq_true_eq] at this
    omega⟩
  unfold okB
  rw [fits_doc 4 _ rfl]
  show (decide ((0 : Int) = 0 ∧ (txt (l.flatMap encF)).size ≤ 300) && fieldsAll (fits 4) em (fields (txt (l.flatMap encF)))) = _
  rw [fields_enc l hnm, decide_eq_true ⟨rfl, hsz⟩, Bool.true_and]
  show riseAll (fits 4) em l = _
  unfold dF
  rw [Bool.eq_iff_iff, decide_eq_true_eq, dmax_le (depthV 5) (l.map Fld.v) 4 (by omega)]
  constructor
  · intro h v hv
    obtain ⟨f, hf, rfl⟩ := List.mem_map.mp hv
    have h1 := fits_depth 4 f.v (rise_all _ l em h f hf).2 5 (by omega)
    have h2 := (depthV_bd 4 f.v).2
    rw [h1.2]; exact_mod_cast h2
  · intro h
    exact rise_swap _ _ l em hr (fun f hf => fits_of_depth 5 4 f.v (hall f hf) (by exact_mod_cast h f.v (List.mem_map.mpr ⟨f, hf, rfl⟩)))

end Go.Proofs.Ytmchpaccdnnilaa

/- What the specification's making of lists answers, for every row of values. -/
namespace Go.Proofs.Ytmchpaccdnnilaa
open Go.RowKit
set_option linter.unusedVariables false

/-- The bytes of values one behind the other. -/
def encL (l : List Val) : List Int := l.flatMap encB
theorem encL_take (l : List Val) (k : Nat) (h : k < l.length) : encL (l.take (k + 1)) = encL (l.take k) ++ encB l[k] := by
  unfold encL; rw [List.take_succ_eq_append_getElem h, List.flatMap_append, List.flatMap_singleton]
theorem encL_len (l : List Val) (h : ∀ v ∈ l, okB v = true) : (encL l).length ≤ l.length * 400 := by
  induction l with
  | nil => simp [encL]
  | cons v l ih =>
    have h1 := (encB_len v (h v (by simp))).2
    have h2 := ih (fun u hu => h u (by simp [hu]))
    unfold encL at h2 ⊢
    rw [List.flatMap_cons, List.length_append, List.length_cons]; omega
theorem encL_take_len (l : List Val) (h : ∀ v ∈ l, okB v = true) (k : Nat) (hl : l.length ≤ 300) : (encL (l.take k)).length ≤ 120000 := by
  have := encL_len (l.take k) (fun v hv => h v (List.mem_of_mem_take hv))
  have h2 : (l.take k).length ≤ l.length := by simp; omega
  omega

set_option maxRecDepth 4000 in
set_option maxHeartbeats 1000000 in
theorem l01List_any (g cap : Nat) (l : List Val) (w : World) (hr : ReadV w g l) (hl : l.length ≤ 300) (hall : ∀ v ∈ l, okB v = true) :
    Calls Try.prog 41 #[.slice (some ⟨g, 0, none⟩) l.length cap] w fun e w' => e = .returned (.agg #[.int .i64 4, .int .i64 0, .string (txt (encL l))]) ∧ Below w.heap.size w w' := by
  have HR : Hid _ := hr
  have HA : Hid _ := hall
  clear hr hall
  go_enter Try.func41, Try.ntmps41
  go_wp2_with fail
  go_loopw [3, 4] (fun u i wr => ∃ k : Nat, k ≤ l.length ∧ i = .int .i64 k ∧ u = .string (txt (encL (l.take k))) ∧ Res3 w wr (.int .i64 0) (.int .i64 0) (.string em)) (fun _ i _ => l.length - (intOf i).toNat)
  case atStart => exact ⟨0, Nat.zero_le _, rfl, rfl, Res3.start w _ _ _ _⟩
  case round =>
    obtain ⟨k, hk, rfl, rfl, X0⟩ := hrel
    have hbel := X0.bel
    have hz := hbel.size
    by_cases hlt : k < l.length
    · have R := (HR.out.next hbel)
      obtain ⟨x0, x1, x2⟩ := R.cells k hlt
      have hok := HA.out l[k] (List.getElem_mem _)
      have HK : Hid _ := hok
      have hsz : (txt (encL (l.take k))).size ≤ 120000 := by rw [txt_size]; exact encL_take_len l HA.out k hl
      have hsz2 : (txt (encB l[k])).size ≤ 400 := by rw [txt_size]; exact (encB_len _ hok).2
      clear hok R
      go_wp2_with fail
      refine (l01Encode_any l[k] HK.out _).mono ?_
      rintro e w1 ⟨rfl, hb⟩
      have X1 := X0.step hb
      clear hb
      go_wp2_with fail
      go_roundw
      case rel => exact ⟨k + 1, by omega, by go_num, by rw [encL_take l k hlt, txt_append], X1⟩
      case measure => simp [intOf]; omega
    · have g0 := X0.c0
      have g1 := X0.c1
      have g2 := X0.c2
      have z0 := X0.z0
      have z1 := X0.z1
      have z2 := X0.z2
      have hlt1 := X0.lt
      clear X0
      have e : l.take k = l := List.take_of_length_le (by omega)
      rw [e]
      go_wp2_with fail
      refine bodyPost_ret (v := .agg #[.int .i64 4, .int .i64 0, .string (txt (encL l))]) (by simp [results, Try.results41, go_sem, *]) rfl ⟨rfl, ?_⟩
      (repeat (first | (with_reducible exact Below.refl _ _) | (with_reducible assumption) | (with_reducible apply below_drewN) | (with_reducible apply Below.drew) | ((with_reducible refine Below.setCell ?_ ?_ _); rotate_left; focus (first | (simp; done) | (simp; omega) | omega)) | ((with_reducible refine Below.alloc ?_ ?_ _); rotate_left; focus (first | (simp; done) | (simp; omega) | omega))))

/-- What is answered of a made list that is made of right values. -/
def fitP (l : List Val) : Val × Int :=
  if 300 < (encL l).length then (zv, 10)
  else if 4 < dmax (depthV 5) l then (zv, 9)
  else (⟨4, 0, txt (encL l)⟩, 0)
/-- What a call that makes a list answers: a value, and a code. -/
def listP (l : List Val) : Val × Int :=
  if 4096 < l.length then (zv, 2)
  else if 300 < l.length then (zv, 10)
  else if l.all okB = false then (zv, 1)
  else fitP l
theorem listP_long (l : List Val) (h : 4096 < l.length) : listP l = (zv, 2) := by unfold listP; rw [if_pos h]
theorem listP_many (l : List Val) (h : ¬ 4096 < l.length) (h2 : 300 < l.length) : listP l = (zv, 10) := by unfold listP; rw [if_neg h, if_pos h2]
theorem listP_bad (l : List Val) (h2 : ¬ 300 < l.length) (k : Nat) (hk : k < l.length) (hb : okB l[k] = false) : listP l = (zv, 1) := by
  have : l.all okB = false := by
    rw [Bool.eq_false_iff]; intro hh
    rw [List.all_eq_true] at hh
    have := hh l[k] (List.getElem_mem _)
    rw [hb] at this; cases this
  unfold listP; rw [if_neg (by omega), if_neg h2, if_pos this]
theorem listP_ok (l : List Val) (h2 : ¬ 300 < l.length) (h : ∀ v ∈ l, okB v = true) : listP l = fitP l := by
  have : l.all okB = true := List.all_eq_true.mpr h
  unfold listP; rw [if_neg (by omega), if_neg h2, this, if_neg (by simp)]
theorem fitP_size (l : List Val) (h : 300 < (encL l).length) : fitP l = (zv, 10) := by unfold fitP; rw [if_pos h]
theorem fitP_deep (l : List Val) (h : ¬ 300 < (encL l).length) (h2 : 4 < dmax (depthV 5) l) : fitP l = (zv, 9) := by unfold fitP; rw [if_neg h, if_pos h2]
theorem fitP_ok (l : List Val) (h : ¬ 300 < (encL l).length) (h2 : ¬ 4 < dmax (depthV 5) l) : fitP l = (⟨4, 0, txt (encL l)⟩, 0) := by unfold fitP; rw [if_neg h, if_neg h2]
theorem made_ok (l : List Val) (hall : ∀ v ∈ l, okB v = true) (h : ¬ 300 < (encL l).length) : okB ⟨4, 0, txt (encL l)⟩ = decide (dmax (depthV 5) l ≤ 4) := list_made l hall (by unfold encL at h; omega)

end Go.Proofs.Ytmchpaccdnnilaa

/- What the specification's drawn values are: right ones; of what lay there, the source alone has changed. -/
namespace Go.Proofs.Ytmchpaccdnnilaa
open Go.RowKit
set_option linter.unusedVariables false

theorem ok_null : okB ⟨0, 0, em⟩ = true := by unfold okB; rw [fits_base 5 _ (by show (0 : Int) ≠ 4; decide) (by show (0 : Int) ≠ 5; decide)]; rfl
theorem ok_bool (n : Int) (h : n = 0 ∨ n = 1) : okB ⟨1, n, em⟩ = true := by
  unfold okB; rw [fits_base 5 _ (by show (1 : Int) ≠ 4; decide) (by show (1 : Int) ≠ 5; decide)]
  rcases h with rfl | rfl <;> rfl
theorem ok_int (n : Int) (h0 : -1000000000000 ≤ n) (h1 : n ≤ 1000000000000) : okB ⟨2, n, em⟩ = true := by
  unfold okB; rw [fits_base 5 _ (by show (2 : Int) ≠ 4; decide) (by show (2 : Int) ≠ 5; decide)]
  have e : base ⟨2, n, em⟩ = decide (-1000000000000 ≤ n ∧ n ≤ 1000000000000 ∧ em.size = 0) := rfl
  rw [e, decide_eq_true_eq]
  exact ⟨h0, h1, rfl⟩
theorem ok_text (t : ByteArray) (h : t.size ≤ 300) : okB ⟨3, 0, t⟩ = true := by
  unfold okB; rw [fits_base 5 _ (by show (3 : Int) ≠ 4; decide) (by show (3 : Int) ≠ 5; decide)]
  have e : base ⟨3, 0, t⟩ = decide ((0 : Int) = 0 ∧ t.size ≤ 300) := rfl
  rw [e, decide_eq_true_eq]
  exact ⟨rfl, h⟩

set_option maxRecDepth 4000 in
set_option maxHeartbeats 1000000 in
theorem l01Int_any (n : Int) (w : World) : Calls Try.prog 38 #[.int .i64 n] w fun e w' => e = .returned (.agg #[.int .i64 2, .int .i64 n, .string em]) ∧ Below w.heap.size w w' := by
  go_enter Try.func38, Try.ntmps38
  go_wp2_with fail
  refine bodyPost_ret (v := .agg #[.int .i64 2, .int .i64 n, .string em]) (by simp [results, Try.results38, go_sem, *]) rfl ⟨rfl, ?_⟩
  (repeat (first | (with_reducible exact Below.refl _ _) | (with_reducible assumption) | (with_reducible apply below_drewN) | (with_reducible apply Below.drew) | ((with_reducible refine Below.setCell ?_ ?_ _); rotate_left; focus (first | (simp; done) | (simp; omega) | omega)) | ((with_reducible refine Below.alloc ?_ ?_ _); rotate_left; focus (first | (simp; done) | (simp; omega) | omega))))
set_option maxRecDepth 4000 in
set_option maxHeartbeats 1000000 in
theorem l01Text_any (t : ByteArray) (w : World) : Calls Try.prog 39 #[.string t] w fun e w' => e = .returned (.agg #[.int .i64 3, .int .i64 0, .string t]) ∧ Below w.heap.size w w' := by
  go_enter Try.func39, Try.ntmps39
  go_wp2_with fail
  refine bodyPost_ret (v := .agg #[.int .i64 3, .int .i64 0, .string t]) (by simp [results, Try.results39, go_sem, *]) rfl ⟨rfl, ?_⟩
  (repeat (first | (with_reducible exact Below.refl _ _) | (with_reducible assumption) | (with_reducible apply below_drewN) | (with_reducible apply Below.drew) | ((with_reducible refine Below.setCell ?_ ?_ _); rotate_left; focus (first | (simp; done) | (simp; omega) | omega)) | ((with_reducible refine Below.alloc ?_ ?_ _); rotate_left; focus (first | (simp; done) | (simp; omega) | omega))))

theorem grown_below {W W' : World} (hb : Below W.heap.size W W') : W.grownBy W' none := ⟨hb.os, hb.tape, hb.output, hb.size, fun k hk _ => hb.block k hk⟩
theorem grown_up {w W W' : World} {g : Nat} {row : Option Nat} (h : w.grownBy W (some g)) (k : W.grownBy W' row) (hr : ∀ j, row = some j → w.heap.size ≤ j) : w.grownBy W' (some g) := h.andThen k (fun j hj => .inl (hr j hj))
/-- A call that draws: the source, and the cells of the answer, which lie ahead of all that the call has made besides. -/
structure DrawX (w W : World) (g : Nat) (x : Option Addr) (cap : Nat) (zs : List Int) (a : Nat) : Prop where
  drew : Drew w g x cap zs a W
  blk : W.heap[w.heap.size]? = some (.cells #[.int .i64 0, .int .i64 0, .string em] 24)
section
variable {w W W' : World} {g : Nat} {x : Option Addr} {cap : Nat} {zs : List Int} {a b : Nat}
theorem DrawX.lt (X : DrawX w W g x cap zs a) : w.heap.size < W.heap.size := (Array.getElem?_eq_some_iff.1 X.blk).1
theorem DrawX.cells (X : DrawX w W g x cap zs a) : W.cell? ⟨w.heap.size, 0, none⟩ = some (.int .i64 0) ∧ W.cell? ⟨w.heap.size, 1, none⟩ = some (.int .i64 0) ∧ W.cell? ⟨w.heap.size, 2, none⟩ = some (.string em) ∧ W.frozen? ⟨w.heap.size, 0, none⟩ = false ∧ W.frozen? ⟨w.heap.size, 1, none⟩ = false ∧ W.frozen? ⟨w.heap.size, 2, none⟩ = false := by
  have h := X.blk
  refine ⟨?_, ?_, ?_, ?_, ?_, ?_⟩ <;> simp [World.cell?, World.frozen?, h]
theorem DrawX.start (h : SrcAt w g x cap zs a) : DrawX w (w.alloc (.cells #[.int .i64 0, .int .i64 0, .string em] 24)) g x cap zs a := by
  have hb : Below w.heap.size w (w.alloc (.cells #[.int .i64 0, .int .i64 0, .string em] 24)) := (Below.refl _ _).alloc (Nat.le_refl _) _
  have hg : w.grownBy (w.alloc (.cells #[.int .i64 0, .int .i64 0, .string em] 24)) (some g) := (grown_below hb).but _
  obtain ⟨k, s, h1, h2, h3⟩ := h.block
  exact ⟨⟨hg, ⟨⟨k, s, h1, h2, (hb.block g h.lt).trans h3⟩, h.code.next hg⟩⟩, heap_alloc_new w _⟩
theorem DrawX.grown (X : DrawX w W g x cap zs a) (hc : CodeAt w g x zs) (hg : g < w.heap.size) {row : Option Nat} (k : W.grownBy W' row) (hr : ∀ j, row = some j → w.heap.size < j) : DrawX w W' g x cap zs a := by
  have h1 : w.grownBy W' (some g) := grown_up X.drew.1 k (fun j hj => Nat.le_of_lt (hr j hj))
  obtain ⟨p, s, e1, e2, e3⟩ := X.drew.2.block
  have hl := X.lt
  refine ⟨⟨h1, ⟨⟨p, s, e1, e2, (k.block g (by omega) (fun e => by have := hr g e.symm; omega)).trans e3⟩, hc.next h1⟩⟩, (k.block _ hl (fun e => by have := hr _ e.symm; omega)).trans X.blk⟩
theorem DrawX.below (X : DrawX w W g x cap zs a) (hc : CodeAt w g x zs) (hg : g < w.heap.size) (hb : Below W.heap.size W W') : DrawX w W' g x cap zs a := X.grown hc hg (grown_below hb) (fun _ h => by cases h)
theorem DrawX.step (X : DrawX w W g x cap zs a) (hg : g < w.heap.size) (d : Drew W g x cap zs b W') : DrawX w W' g x cap zs b :=
  ⟨X.drew.trans d, (d.1.block _ X.lt (fun e => by injection e with e; omega)).trans X.blk⟩
theorem Drew.setR (hc : CodeAt w g x zs) (hg : g < w.heap.size) (h : Drew w g x cap zs a W) (o : Nat) (v : Value) : Drew w g x cap zs a (W.setCell ⟨w.heap.size, o, none⟩ v) := by
  have h1 : w.grownBy (W.setCell ⟨w.heap.size, o, none⟩ v) (some g) := grown_up h.1 grown_set (fun j hj => by injection hj with hj; omega)
  obtain ⟨p, s, e1, e2, e3⟩ := h.2.block
  exact ⟨h1, ⟨⟨p, s, e1, e2, (grown_set.block g h.2.lt (fun e => by injection e with e; omega)).trans e3⟩, hc.next h1⟩⟩
theorem DrawX.fin (X : DrawX w W g x cap zs a) (hc : CodeAt w g x zs) (hg : g < w.heap.size) (hab : a ≤ b) (v0 v1 v2 : Value) : Drew w g x cap zs b (((W.setCell ⟨w.heap.size, 0, none⟩ v0).setCell ⟨w.heap.size, 1, none⟩ v1).setCell ⟨w.heap.size, 2, none⟩ v2) := by
  have h := Drew.setR hc hg (Drew.setR hc hg (Drew.setR hc hg X.drew 0 v0) 1 v1) 2 v2
  exact ⟨h.1, h.2.mono hab⟩
theorem Drew.more (h : Drew w g x cap zs a W) (hab : a ≤ b) : Drew w g x cap zs b W := ⟨h.1, h.2.mono hab⟩
end

def costV : Nat → Nat
  | 0 => 10
  | d + 1 => 30 + 5 * costV d
def ValAt (d : Nat) : Prop := ∀ (g : Nat) (x : Option Addr) (cap : Nat) (zs : List Int) (a : Nat) (w : World), SrcAt w g x cap zs a → a + costV d ≤ 100000 →
    Calls Try.prog 17 #[.pointer (some ⟨g, 0, none⟩), .int .i64 d] w fun e w' => (∃ v : Val, e = .returned (.agg #[.int .i64 v.k, .int .i64 v.n, .string v.t]) ∧ okB v = true) ∧ Drew w g x cap zs (a + costV d) w'
def DocAt (d : Nat) : Prop := ∀ (g : Nat) (x : Option Addr) (cap : Nat) (zs : List Int) (a : Nat) (w : World), SrcAt w g x cap zs a → a + 4 * (1 + costV d) ≤ 100000 →
    Calls Try.prog 42 #[.pointer (some ⟨g, 0, none⟩), .int .i64 d] w fun e w' => (∃ v : Val, e = .returned (.agg #[.int .i64 v.k, .int .i64 v.n, .string v.t]) ∧ okB v = true ∧ v.k = 5) ∧ Drew w g x cap zs (a + 4 * (1 + costV d)) w'

set_option maxRecDepth 4000 in
set_option maxHeartbeats 2000000 in
theorem val_zero : ValAt 0 := by
  intro g x cap zs a w h ha
  have hg := h.lt
  have HC : Hid (CodeAt _ _ _ _) := h.code
  have ha' : a + 10 ≤ 100000 := ha
  show Calls _ _ _ _ fun e w' => _ ∧ Drew w g x cap zs (a + 10) w'
  have X0 := DrawX.start h
  have HX0 : Hid _ := X0
  clear h X0 ha
  go_enter Try.func17, Try.ntmps17
  go_wp2_with fail
  refine (next_any g x cap zs a 8 _ HX0.out.drew.2 (by omega) (by omega) (by omega)).mono ?_
  rintro e w1 ⟨⟨z, rfl, hz⟩, d1⟩
  have HX1 : Hid _ := HX0.out.step hg d1
  clear d1 HX0
  go_wp2_with fail
  refine (next_any g x cap zs (a + 1) 6 _ HX1.out.drew.2 (by omega) (by omega) (by omega)).mono ?_
  rintro e w2 ⟨⟨z2, rfl, hz2⟩, d2⟩
  have HX2 : Hid _ := HX1.out.step hg d2
  clear d2 HX1 hz
  rcases (show z2 = 0 ∨ z2 = 1 ∨ z2 = 2 ∨ z2 = 3 ∨ z2 = 4 ∨ z2 = 5 by omega) with rfl | rfl | rfl | rfl | rfl | rfl
  case inl =>
    obtain ⟨c0, c1, c2, f0, f1, f2⟩ := HX2.out.cells
    go_wp2_with fail
    refine bodyPost_ret (v := .agg #[.int .i64 0, .int .i64 0, .string em]) (by simp [results, Try.results17, go_sem, *]) rfl ⟨⟨⟨0, 0, em⟩, rfl, ok_null⟩, ?_⟩
    exact HX2.out.fin HC.out hg (by omega) _ _ _
  case inr.inl =>
    go_wp2_with fail
    refine (next_any g x cap zs (a + 1 + 1) 2 _ HX2.out.drew.2 (by omega) (by omega) (by omega)).mono ?_
    rintro e w3 ⟨⟨z3, rfl, hz3⟩, d3⟩
    have HX3 : Hid _ := HX2.out.step hg d3
    obtain ⟨c0, c1, c2, f0, f1, f2⟩ := HX3.out.cells
    clear d3
    go_wp2_with fail
    refine bodyPost_ret (v := .agg #[.int .i64 1, .int .i64 z3, .string em]) (by simp [results, Try.results17, go_sem, *]) rfl ⟨⟨⟨1, z3, em⟩, rfl, ok_bool _ (by omega)⟩, ?_⟩
    exact HX3.out.fin HC.out hg (by omega) _ _ _
  case inr.inr.inl =>
    go_wp2_with fail
    refine (next_any g x cap zs (a + 1 + 1) 9 _ HX2.out.drew.2 (by omega) (by omega) (by omega)).mono ?_
    rintro e w3 ⟨⟨z3, rfl, hz3⟩, d3⟩
    have HX3 : Hid _ := HX2.out.step hg d3
    clear d3
    go_wp2_with fail
    refine (l01Int_any ((z3 : Int) - 3) _).mono ?_
    rintro e w4 ⟨rfl, hb⟩
    have HX4 : Hid _ := HX3.out.below HC.out hg hb
    obtain ⟨c0, c1, c2, f0, f1, f2⟩ := HX4.out.cells
    clear hb
    go_wp2_with fail
    refine bodyPost_ret (v := .agg #[.int .i64 2, .int .i64 ((z3 : Int) - 3), .string em]) (by simp [results, Try.results17, go_sem, *]) rfl ⟨⟨⟨2, ((z3 : Int) - 3), em⟩, rfl, ok_int _ (by omega) (by omega)⟩, ?_⟩
    exact HX4.out.fin HC.out hg (by omega) _ _ _
  case inr.inr.inr.inl =>
    go_wp2_with fail
    refine (next_any g x cap zs (a + 1 + 1) 9 _ HX2.out.drew.2 (by omega) (by omega) (by omega)).mono ?_
    rintro e w3 ⟨⟨z3, rfl, hz3⟩, d3⟩
    have HX3 : Hid _ := HX2.out.step hg d3
    clear d3
    go_wp2_with fail
    refine (l01Int_any ((z3 : Int) - 3) _).mono ?_
    rintro e w4 ⟨rfl, hb⟩
    have HX4 : Hid _ := HX3.out.below HC.out hg hb
    obtain ⟨c0, c1, c2, f0, f1, f2⟩ := HX4.out.cells
    clear hb
    go_wp2_with fail
    refine bodyPost_ret (v := .agg #[.int .i64 2, .int .i64 ((z3 : Int) - 3), .string em]) (by simp [results, Try.results17, go_sem, *]) rfl ⟨⟨⟨2, ((z3 : Int) - 3), em⟩, rfl, ok_int _ (by omega) (by omega)⟩, ?_⟩
    exact HX4.out.fin HC.out hg (by omega) _ _ _
  case inr.inr.inr.inr.inl =>
    have HX3 : Hid _ := HX2.out.below HC.out hg ((Below.refl _ _).alloc (Nat.le_refl _) (.cells #[.string ⟨#[]⟩, .string ⟨#[97]⟩, .string ⟨#[97, 98]⟩, .string ⟨#[98]⟩, .string ⟨#[0]⟩] 9))
    have hgl : g < w2.heap.size := by have := HX2.out.lt; omega
    go_wp2_with fail
    refine (pick_any g x cap zs (a + 1 + 1) w2.heap.size 5 [⟨#[]⟩, ⟨#[97]⟩, ⟨#[97, 98]⟩, ⟨#[98]⟩, ⟨#[0]⟩] _ HX3.out.drew.2 (by omega) (by decide) (by decide) (by omega) (by
      intro i hi
      rcases (show i = 0 ∨ i = 1 ∨ i = 2 ∨ i = 3 ∨ i = 4 by simp at hi; omega) with rfl | rfl | rfl | rfl | rfl <;> simp [go_sem])).mono ?_
    rintro e w3 ⟨⟨t, ht, rfl⟩, d3⟩
    have hts : t.size ≤ 300 := by simp at ht; rcases ht with rfl | rfl | rfl | rfl | rfl <;> decide
    have HX4 : Hid _ := HX3.out.step hg d3
    clear d3 ht
    go_wp2_with fail
    refine (l01Text_any t _).mono ?_
    rintro e w4 ⟨rfl, hb⟩
    have HX5 : Hid _ := HX4.out.below HC.out hg hb
    obtain ⟨c0, c1, c2, f0, f1, f2⟩ := HX5.out.cells
    clear hb
    go_wp2_with fail
    refine bodyPost_ret (v := .agg #[.int .i64 3, .int .i64 0, .string t]) (by simp [results, Try.results17, go_sem, *]) rfl ⟨⟨⟨3, 0, t⟩, rfl, ok_text _ hts⟩, ?_⟩
    exact HX5.out.fin HC.out hg (by omega) _ _ _
  case inr.inr.inr.inr.inr =>
    have HX3 : Hid _ := HX2.out.below HC.out hg ((Below.refl _ _).alloc (Nat.le_refl _) (.cells #[.int .i64 1000000000000, .int .i64 (-1000000000000), .int .i64 300] 3))
    have hgl : g < w2.heap.size := by have := HX2.out.lt; omega
    go_wp2_with fail
    refine (next_any g x cap zs (a + 1 + 1) 3 _ HX3.out.drew.2 (by omega) (by omega) (by omega)).mono ?_
    rintro e w3 ⟨⟨z3, rfl, hz3⟩, d3⟩
    have HX4 : Hid _ := HX3.out.step hg d3
    obtain ⟨N, hN0, hN1, hN⟩ : ∃ N : Int, -1000000000000 ≤ N ∧ N ≤ 1000000000000 ∧ w3.cell? ⟨w2.heap.size, z3, none⟩ = some (.int .i64 N) := by
      rcases (show z3 = 0 ∨ z3 = 1 ∨ z3 = 2 by omega) with rfl | rfl | rfl
      · exact ⟨1000000000000, by omega, by omega, d3.1.cell (by simp [go_sem]) (by intro e; injection e with e; simp at e; omega)⟩
      · exact ⟨-1000000000000, by omega, by omega, d3.1.cell (by simp [go_sem]) (by intro e; injection e with e; simp at e; omega)⟩
      · exact ⟨300, by omega, by omega, d3.1.cell (by simp [go_sem]) (by intro e; injection e with e; simp at e; omega)⟩
    clear d3
    go_wp2_with fail
    refine (l01Int_any N _).mono ?_
    rintro e w4 ⟨rfl, hb⟩
    have HX5 : Hid _ := HX4.out.below HC.out hg hb
    obtain ⟨c0, c1, c2, f0, f1, f2⟩ := HX5.out.cells
    clear hb
    go_wp2_with fail
    refine bodyPost_ret (v := .agg #[.int .i64 2, .int .i64 N, .string em]) (by simp [results, Try.results17, go_sem, *]) rfl ⟨⟨⟨2, N, em⟩, rfl, ok_int _ hN0 hN1⟩, ?_⟩
    exact HX5.out.fin HC.out hg (by omega) _ _ _

end Go.Proofs.Ytmchpaccdnnilaa

/- The specification's drawn values, one step deeper. -/
namespace Go.Proofs.Ytmchpaccdnnilaa
open Go.RowKit
set_option linter.unusedVariables false

theorem costV_ge : ∀ d, d ≤ costV d
  | 0 => by unfold costV; omega
  | d + 1 => by have := costV_ge d; unfold costV; omega
theorem own_ne {W : World} {B n : Nat} {e : TypeId} {size g : Nat} {v : Value} {xs : List Value} (h : W.ownsRow B e size v n xs) (hg : g < B) : v.ownBlock = none ∨ v.ownBlock ≠ some g := by
  right; intro e'; have := (h.lt g e').1; omega

set_option maxRecDepth 4000 in
set_option maxHeartbeats 4000000 in
theorem val_succ (d : Nat) (ih : ValAt d) (ihd : DocAt d) : ValAt (d + 1) := by
  intro g x cap zs a w h ha
  have hg := h.lt
  have HC : Hid (CodeAt _ _ _ _) := h.code
  obtain ⟨i0, hi0, hz0, hz1, hz2⟩ := info_parts infoV
  have HI : Hid (ValAt _) := ih
  have HID : Hid (DocAt _) := ihd
  have hdc := costV_ge d
  obtain ⟨C, hC⟩ : ∃ C, C = costV d := ⟨_, rfl⟩
  have hC1 : costV (d + 1) = 30 + 5 * C := by rw [hC]; rfl
  rw [hC1] at ha ⊢
  rw [← hC] at hdc
  have HCD : Hid (_ = _) := hC
  rw [show (((d + 1 : Nat)) : Int) = (d : Int) + 1 by omega]
  have hd0 : ¬ ((d : Int) + 1 = 0) := by omega
  have hde : (((d : Int) + 1) == 0) = false := beq_eq_false_iff_ne.mpr hd0
  have hdw : IntKind.i64.wrap ((d : Int) + 1 - 1) = (d : Int) := by rw [IntKind.wrap_i64]; omega
  have HX0 : Hid _ := DrawX.start h
  clear h ih ihd hC hC1
  go_enter Try.func17, Try.ntmps17
  go_wp2_with fail
  refine (next_any g x cap zs a 8 _ HX0.out.drew.2 (by omega) (by omega) (by omega)).mono ?_
  rintro e w2 ⟨⟨z, rfl, hz⟩, d1⟩
  have HX1 : Hid _ := HX0.out.step hg d1
  have hl2 := HX1.out.lt
  clear d1 HX0
  rcases (show z = 0 ∨ z = 1 ∨ z = 2 ∨ z = 3 ∨ z = 4 ∨ z = 5 ∨ z = 6 ∨ z = 7 by omega) with rfl | rfl | rfl | rfl | rfl | rfl | rfl | rfl
  case inl =>
    obtain ⟨c0, c1, c2, f0, f1, f2⟩ := HX1.out.cells
    go_wp2_with fail
    refine bodyPost_ret (v := .agg #[.int .i64 0, .int .i64 0, .string em]) (by simp [results, Try.results17, go_sem, *]) rfl ⟨⟨⟨0, 0, em⟩, rfl, ok_null⟩, ?_⟩
    exact HX1.out.fin HC.out hg (by omega) _ _ _
  case inr.inl =>
    go_wp2_with fail
    refine (next_any g x cap zs (a + 1) 2 _ HX1.out.drew.2 (by omega) (by omega) (by omega)).mono ?_
    rintro e w3 ⟨⟨z3, rfl, hz3⟩, d3⟩
    have HX3 : Hid _ := HX1.out.step hg d3
    obtain ⟨c0, c1, c2, f0, f1, f2⟩ := HX3.out.cells
    clear d3
    go_wp2_with fail
    refine bodyPost_ret (v := .agg #[.int .i64 1, .int .i64 z3, .string em]) (by simp [results, Try.results17, go_sem, *]) rfl ⟨⟨⟨1, z3, em⟩, rfl, ok_bool _ (by omega)⟩, ?_⟩
    exact HX3.out.fin HC.out hg (by omega) _ _ _
  case inr.inr.inl =>
    go_wp2_with fail
    refine (next_any g x cap zs (a + 1) 9 _ HX1.out.drew.2 (by omega) (by omega) (by omega)).mono ?_
    rintro e w3 ⟨⟨z3, rfl, hz3⟩, d3⟩
    have HX3 : Hid _ := HX1.out.step hg d3
    clear d3
    go_wp2_with fail
    refine (l01Int_any ((z3 : Int) - 3) _).mono ?_
    rintro e w4 ⟨rfl, hb⟩
    have HX4 : Hid _ := HX3.out.below HC.out hg hb
    obtain ⟨c0, c1, c2, f0, f1, f2⟩ := HX4.out.cells
    clear hb
    go_wp2_with fail
    refine bodyPost_ret (v := .agg #[.int .i64 2, .int .i64 ((z3 : Int) - 3), .string em]) (by simp [results, Try.results17, go_sem, *]) rfl ⟨⟨⟨2, ((z3 : Int) - 3), em⟩, rfl, ok_int _ (by omega) (by omega)⟩, ?_⟩
    exact HX4.out.fin HC.out hg (by omega) _ _ _
  case inr.inr.inr.inl =>
    go_wp2_with fail
    refine (next_any g x cap zs (a + 1) 9 _ HX1.out.drew.2 (by omega) (by omega) (by omega)).mono ?_
    rintro e w3 ⟨⟨z3, rfl, hz3⟩, d3⟩
    have HX3 : Hid _ := HX1.out.step hg d3
    clear d3
    go_wp2_with fail
    refine (l01Int_any ((z3 : Int) - 3) _).mono ?_
    rintro e w4 ⟨rfl, hb⟩
    have HX4 : Hid _ := HX3.out.below HC.out hg hb
    obtain ⟨c0, c1, c2, f0, f1, f2⟩ := HX4.out.cells
    clear hb
    go_wp2_with fail
    refine bodyPost_ret (v := .agg #[.int .i64 2, .int .i64 ((z3 : Int) - 3), .string em]) (by simp [results, Try.results17, go_sem, *]) rfl ⟨⟨⟨2, ((z3 : Int) - 3), em⟩, rfl, ok_int _ (by omega) (by omega)⟩, ?_⟩
    exact HX4.out.fin HC.out hg (by omega) _ _ _
  case inr.inr.inr.inr.inl =>
    have HX3 : Hid _ := HX1.out.below HC.out hg ((Below.refl _ _).alloc (Nat.le_refl _) (.cells #[.string ⟨#[]⟩, .string ⟨#[97]⟩, .string ⟨#[97, 98]⟩, .string ⟨#[98]⟩, .string ⟨#[0]⟩] 9))
    have hgl : g < w2.heap.size := by have := HX1.out.lt; omega
    go_wp2_with fail
    refine (pick_any g x cap zs (a + 1) w2.heap.size 5 [⟨#[]⟩, ⟨#[97]⟩, ⟨#[97, 98]⟩, ⟨#[98]⟩, ⟨#[0]⟩] _ HX3.out.drew.2 (by omega) (by decide) (by decide) (by omega) (by
      intro i hi
      rcases (show i = 0 ∨ i = 1 ∨ i = 2 ∨ i = 3 ∨ i = 4 by simp at hi; omega) with rfl | rfl | rfl | rfl | rfl <;> simp [go_sem])).mono ?_
    rintro e w3 ⟨⟨t, ht, rfl⟩, d3⟩
    have hts : t.size ≤ 300 := by simp at ht; rcases ht with rfl | rfl | rfl | rfl | rfl <;> decide
    have HX4 : Hid _ := HX3.out.step hg d3
    clear d3 ht
    go_wp2_with fail
    refine (l01Text_any t _).mono ?_
    rintro e w4 ⟨rfl, hb⟩
    have HX5 : Hid _ := HX4.out.below HC.out hg hb
    obtain ⟨c0, c1, c2, f0, f1, f2⟩ := HX5.out.cells
    clear hb
    go_wp2_with fail
    refine bodyPost_ret (v := .agg #[.int .i64 3, .int .i64 0, .string t]) (by simp [results, Try.results17, go_sem, *]) rfl ⟨⟨⟨3, 0, t⟩, rfl, ok_text _ hts⟩, ?_⟩
    exact HX5.out.fin HC.out hg (by omega) _ _ _
  case inr.inr.inr.inr.inr.inl =>
    have HX3 : Hid _ := HX1.out.below HC.out hg ((Below.refl _ _).alloc (Nat.le_refl _) (.cells #[.int .i64 1000000000000, .int .i64 (-1000000000000), .int .i64 300] 3))
    have hgl : g < w2.heap.size := by have := HX1.out.lt; omega
    go_wp2_with fail
    refine (next_any g x cap zs (a + 1) 3 _ HX3.out.drew.2 (by omega) (by omega) (by omega)).mono ?_
    rintro e w3 ⟨⟨z3, rfl, hz3⟩, d3⟩
    have HX4 : Hid _ := HX3.out.step hg d3
    obtain ⟨N, hN0, hN1, hN⟩ : ∃ N : Int, -1000000000000 ≤ N ∧ N ≤ 1000000000000 ∧ w3.cell? ⟨w2.heap.size, z3, none⟩ = some (.int .i64 N) := by
      rcases (show z3 = 0 ∨ z3 = 1 ∨ z3 = 2 by omega) with rfl | rfl | rfl
      · exact ⟨1000000000000, by omega, by omega, d3.1.cell (by simp [go_sem]) (by intro e; injection e with e; simp at e; omega)⟩
      · exact ⟨-1000000000000, by omega, by omega, d3.1.cell (by simp [go_sem]) (by intro e; injection e with e; simp at e; omega)⟩
      · exact ⟨300, by omega, by omega, d3.1.cell (by simp [go_sem]) (by intro e; injection e with e; simp at e; omega)⟩
    clear d3
    go_wp2_with fail
    refine (l01Int_any N _).mono ?_
    rintro e w4 ⟨rfl, hb⟩
    have HX5 : Hid _ := HX4.out.below HC.out hg hb
    obtain ⟨c0, c1, c2, f0, f1, f2⟩ := HX5.out.cells
    clear hb
    go_wp2_with fail
    refine bodyPost_ret (v := .agg #[.int .i64 2, .int .i64 N, .string em]) (by simp [results, Try.results17, go_sem, *]) rfl ⟨⟨⟨2, N, em⟩, rfl, ok_int _ hN0 hN1⟩, ?_⟩
    exact HX5.out.fin HC.out hg (by omega) _ _ _
  case inr.inr.inr.inr.inr.inr.inr =>
    go_wp2_with fail
    refine (HID.out g x cap zs (a + 1) _ HX1.out.drew.2 (by rw [← HCD.out]; omega)).mono ?_
    rintro e w3 ⟨⟨v, rfl, hv, hk⟩, d3⟩
    rw [← HCD.out] at d3
    have HX3 : Hid _ := HX1.out.step hg d3
    obtain ⟨c0, c1, c2, f0, f1, f2⟩ := HX3.out.cells
    clear d3
    go_wp2_with fail
    refine bodyPost_ret (v := .agg #[.int .i64 v.k, .int .i64 v.n, .string v.t]) (by simp [results, Try.results17, go_sem, *]) rfl ⟨⟨v, rfl, hv⟩, ?_⟩
    exact HX3.out.fin HC.out hg (by omega) _ _ _
  case inr.inr.inr.inr.inr.inr.inl =>
    have HX3 : Hid _ := HX1.out.below HC.out hg ((Below.refl _ _).alloc (Nat.le_refl _) (.cells #[] 24))
    have O3 := World.ownsRow_made (base := w.heap.size + 1) (size := 3) (e := 24) w2 #[] 0 (by omega) (by unfold maxLen; omega) rfl
    go_wp2_with fail
    refine (next_any g x cap zs (a + 1) 4 _ HX3.out.drew.2 (by omega) (by omega) (by omega)).mono ?_
    rintro e w3 ⟨⟨z3, rfl, hz3⟩, d3⟩
    have HX4 : Hid _ := HX3.out.step hg d3
    have O4 := O3.kept d3.1 (own_ne O3 (by omega))
    have HO4 : Hid (World.ownsRow _ _ _ _ _ _ _) := O4
    clear d3 O3 O4 HX3 HX1
    go_wp2_with fail
    go_loopw [6, 7] (fun u i wr => ∃ (q : Nat) (l : List Val), i = .int .i64 q ∧ l.length + q ≤ 3 ∧ (∀ v ∈ l, okB v = true) ∧ wr.ownsRow (w.heap.size + 1) 24 3 u l.length (flat l) ∧ (¬ u = .slice none 0 0) ∧ DrawX w wr g x cap zs (a + 2 + l.length * C)) (fun _ i _ => (intOf i).toNat)
    case atStart => exact ⟨z3, [], rfl, by simp; omega, by simp, HO4.out, by simp, by simpa using HX4.out⟩
    case round =>
      obtain ⟨q, l, rfl, hq, hall, hown, hnn, X⟩ := hrel
      have HN : Hid _ := hnn
      have HA : Hid _ := hall
      have HX : Hid (DrawX _ _ _ _ _ _ _) := X
      have hlr := X.lt
      have HO : Hid (World.ownsRow _ _ _ _ _ _ _) := hown
      clear hnn hall X hown HO4 HX4
      by_cases hq0 : q = 0
      · subst hq0
        obtain ⟨g3, cap3, hv⟩ := owns_shape HO.out HN.out
        subst hv
        have HRV : Hid (ReadV _ _ _) := ReadV.of_own HO.out
        have hel := encL_len l HA.out
        have hsz : (txt (encL l)).size ≤ 1048576 := by rw [txt_size]; omega
        have hlc : l.length * C ≤ 3 * C := Nat.mul_le_mul_right _ (by omega)
        clear HO HN hel
        go_wp2_with fail
        refine (l01List_any g3 cap3 l _ HRV.out (by omega) HA.out).mono ?_
        rintro e w5 ⟨rfl, hb⟩
        have HX5 : Hid (DrawX _ _ _ _ _ _ _) := HX.out.below HC.out hg hb
        have hl5 := HX5.out.lt
        clear hb HRV HX
        cases hok : okB ⟨4, 0, txt (encL l)⟩
        · have HK : Hid _ := hok
          clear hok
          go_wp2_with fail
          refine (specValueOK_any 4 0 (txt (encL l)) _ hsz).mono ?_
          rintro e w6 ⟨rfl, hb⟩
          rw [HK.out]
          have hbw : Below w5.heap.size w5 w6 := Below.trans (by (repeat (first | (with_reducible exact Below.refl _ _) | (with_reducible assumption) | (with_reducible apply below_drewN) | (with_reducible apply Below.drew) | ((with_reducible refine Below.setCell ?_ ?_ _); rotate_left; focus (first | (simp; done) | (simp; omega) | omega)) | ((with_reducible refine Below.alloc ?_ ?_ _); rotate_left; focus (first | (simp; done) | (simp; omega) | omega))))) (hb.mono (by simp))
          have HX6 : Hid (DrawX _ _ _ _ _ _ _) := HX5.out.below HC.out hg hbw
          clear hb hbw
          go_wp2_with fail
          refine (l01Int_any 1 _).mono ?_
          rintro e w7 ⟨rfl, hb⟩
          have HX7 : Hid (DrawX _ _ _ _ _ _ _) := HX6.out.below HC.out hg hb
          obtain ⟨c0, c1, c2, f0, f1, f2⟩ := HX7.out.cells
          clear hb
          go_wp2_with fail
          refine bodyPost_ret (v := .agg #[.int .i64 2, .int .i64 1, .string em]) (by simp [results, Try.results17, go_sem, *]) rfl ⟨⟨⟨2, 1, em⟩, rfl, ok_int _ (by omega) (by omega)⟩, ?_⟩
          exact HX7.out.fin HC.out hg (by omega) _ _ _
        · have HK : Hid _ := hok
          clear hok
          go_wp2_with fail
          refine (specValueOK_any 4 0 (txt (encL l)) _ hsz).mono ?_
          rintro e w6 ⟨rfl, hb⟩
          rw [HK.out]
          have hbw : Below w5.heap.size w5 w6 := Below.trans (by (repeat (first | (with_reducible exact Below.refl _ _) | (with_reducible assumption) | (with_reducible apply below_drewN) | (with_reducible apply Below.drew) | ((with_reducible refine Below.setCell ?_ ?_ _); rotate_left; focus (first | (simp; done) | (simp; omega) | omega)) | ((with_reducible refine Below.alloc ?_ ?_ _); rotate_left; focus (first | (simp; done) | (simp; omega) | omega))))) (hb.mono (by simp))
          have HX6 : Hid (DrawX _ _ _ _ _ _ _) := HX5.out.below HC.out hg hbw
          have b0 : w6.cell? ⟨w5.heap.size, 0, none⟩ = some (.int .i64 4) := (hb.cell (p := ⟨w5.heap.size, 0, none⟩) (by simp)).trans (by simp [go_sem])
          have b1 : w6.cell? ⟨w5.heap.size, 1, none⟩ = some (.int .i64 0) := (hb.cell (p := ⟨w5.heap.size, 1, none⟩) (by simp)).trans (by simp [go_sem])
          have b2 : w6.cell? ⟨w5.heap.size, 2, none⟩ = some (.string (txt (encL l))) := (hb.cell (p := ⟨w5.heap.size, 2, none⟩) (by simp)).trans (by simp [go_sem])
          obtain ⟨c0, c1, c2, f0, f1, f2⟩ := HX6.out.cells
          have hz6 : w5.heap.size < w6.heap.size := by have := hb.size; simp at this; omega
          clear hb hbw
          go_wp2_with fail
          refine bodyPost_ret (v := .agg #[.int .i64 4, .int .i64 0, .string (txt (encL l))]) (by simp [results, Try.results17, go_sem, *]) rfl ⟨⟨⟨4, 0, (txt (encL l))⟩, rfl, HK.out⟩, ?_⟩
          exact HX6.out.fin HC.out hg (by omega) _ _ _
      · have hq1 : 0 < q := by omega
        have hlc : l.length * C ≤ 2 * C := Nat.mul_le_mul_right _ (by omega)
        clear hq0
        go_wp2_with fail
        refine (HI.out g x cap zs (a + 2 + l.length * C) _ HX.out.drew.2 (by rw [← HCD.out]; omega)).mono ?_
        rintro e w5 ⟨⟨v, rfl, hv⟩, d5⟩
        rw [← HCD.out] at d5
        have HX5 : Hid (DrawX _ _ _ _ _ _ _) := HX.out.step hg d5
        have O5 := HO.out.kept d5.1 (own_ne HO.out (by omega))
        have hl5 := HX5.out.lt
        have HV : Hid _ := hv
        clear d5 hv
        go_wp2_with (at_builtin; refine wpList_append_own _ rfl (.tmp 54) (.tmp 59) 70 rfl (w.heap.size + 1) 24 i0 (.agg #[.int .i64 0, .int .i64 0, .string em]) 3 32 Try.underlying70 hi0 hz0 hz1 hz2 rfl (by decide) _ _ _ rfl (O5.alloc _) ⟨w5.heap.size, 0, none⟩ 1 1 (row v) rfl rfl ?c1 ?c2 ?c3 ?c4 ?c5 ?_)
        case c1 =>
          intro j u hj
          match j, hj with
          | 0, hj => simp [row] at hj; subst hj; simp [Addr.add, go_sem]
          | 1, hj => simp [row] at hj; subst hj; simp [Addr.add, go_sem]
          | 2, hj => simp [row] at hj; subst hj; simp [Addr.add, go_sem]
          | j + 3, hj => simp [row] at hj
        case c2 => intro u hu; simp [row] at hu; rcases hu with rfl | rfl | rfl <;> rfl
        case c3 => unfold maxLen; omega
        case c4 => omega
        case c5 => simp; omega
        intro v' w6 hown6 hgrow hnv
        have HX6 : Hid (DrawX _ _ _ _ _ _ _) := (HX5.out.below HC.out hg ((Below.refl _ _).alloc (Nat.le_refl _) _)).grown HC.out hg hgrow (fun j hj => by have := (O5.lt j hj).1; omega)
        have HO6 : Hid (World.ownsRow _ _ _ _ _ _ _) := hown6
        have HN6 : Hid _ := hnv
        clear hown6 hgrow hnv O5
        go_wp2_with fail
        go_roundw
        case rel =>
          exact ⟨q - 1, l ++ [v], by go_num, by simp; omega, fun u hu => by rcases List.mem_append.mp hu with h | h; exact HA.out u h; (simp at h; subst h; exact HV.out), by rw [flat_snoc, List.length_append]; exact HO6.out, HN6.out, by have := HX6.out; rwa [show a + 2 + l.length * C + C = a + 2 + (l ++ [v]).length * C by rw [List.length_append, Nat.add_mul]; simp; omega] at this⟩
        case measure => simp [intOf]; omega

end Go.Proofs.Ytmchpaccdnnilaa
