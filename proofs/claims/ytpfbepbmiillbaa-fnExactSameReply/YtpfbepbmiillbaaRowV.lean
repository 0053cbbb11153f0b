/- What the laws' own helpers on rows of values answer. -/
import Derived.Test.YtpfbepbmiillbaaLawB
import Derived.Test.YtpfbepbmiillbaaLawVal
import Derived.Test.YtpfbepbmiillbaaUnder
namespace Go.Proofs.Ytpfbepbmiillbaa
open Go.RowKit
set_option linter.unusedVariables false

/-- A row of values that stands at a block's head. -/
structure ReadV (w : World) (g : Nat) (l : List Val) : Prop where
  lt : g < w.heap.size
  cells : ∀ i (h : i < l.length), w.cell? ⟨g, i * 3, none⟩ = some (.int .i64 l[i].k) ∧ w.cell? ⟨g, i * 3 + 1, none⟩ = some (.int .i64 l[i].n) ∧ w.cell? ⟨g, i * 3 + 2, none⟩ = some (.string l[i].t)
theorem ReadV.step {w w' : World} {g base : Nat} {l : List Val} (h : ReadV w g l) (hb : Below base w w') (hg : g < base) : ReadV w' g l :=
  ⟨Nat.lt_of_lt_of_le h.lt hb.size, fun i hi => ⟨(hb.cell hg).trans (h.cells i hi).1, (hb.cell hg).trans (h.cells i hi).2.1, (hb.cell hg).trans (h.cells i hi).2.2⟩⟩
theorem ReadV.next {w w' : World} {g : Nat} {l : List Val} (h : ReadV w g l) (hb : Below w.heap.size w w') : ReadV w' g l := h.step hb h.lt
theorem ReadV.of_own {w : World} {base g cap : Nat} {l : List Val} (h : w.ownsRow base 36 3 (.slice (some ⟨g, 0, none⟩) l.length cap) l.length (flat l)) : ReadV w g l :=
  ⟨(h.lt g rfl).2, fun i hi => ⟨owns_cell h _ _ (flat_get l i hi).1, owns_cell h _ _ (flat_get l i hi).2.1, owns_cell h _ _ (flat_get l i hi).2.2⟩⟩
/-- Values that came in. -/
def InV (w : World) (a : Option Addr) (l : List Val) : Prop := l.length = 0 ∨ ∃ b off, a = some ⟨b, off, none⟩ ∧ b < w.heap.size ∧ ∀ i (h : i < l.length), w.cell? ⟨b, off + i * 3, none⟩ = some (.int .i64 l[i].k) ∧ w.cell? ⟨b, off + i * 3 + 1, none⟩ = some (.int .i64 l[i].n) ∧ w.cell? ⟨b, off + i * 3 + 2, none⟩ = some (.string l[i].t)
theorem InV.step {w w' : World} {a : Option Addr} {l : List Val} (h : InV w a l) (hb : Below w.heap.size w w') : InV w' a l := by
  rcases h with h | ⟨b, off, ha, hlt, hc⟩
  · exact .inl h
  · exact .inr ⟨b, off, ha, Nat.lt_of_lt_of_le hlt hb.size, fun i hi => ⟨(hb.cell hlt).trans (hc i hi).1, (hb.cell hlt).trans (hc i hi).2.1, (hb.cell hlt).trans (hc i hi).2.2⟩⟩

/-- Block number w.heap.size of W holds three cells that may be written, and all that lay in w lies in W as it did. -/
structure Res3 (w W : World) (a b c : Value) : Prop where
  bel : Below w.heap.size w W
  lt : w.heap.size < W.heap.size
  c0 : W.cell? ⟨w.heap.size, 0, none⟩ = some a
  c1 : W.cell? ⟨w.heap.size, 1, none⟩ = some b
  c2 : W.cell? ⟨w.heap.size, 2, none⟩ = some c
  z0 : W.frozen? ⟨w.heap.size, 0, none⟩ = false
  z1 : W.frozen? ⟨w.heap.size, 1, none⟩ = false
  z2 : W.frozen? ⟨w.heap.size, 2, none⟩ = false
theorem Res3.start (w : World) (a b c : Value) (T : TypeId) : Res3 w (w.alloc (.cells #[a, b, c] T)) a b c :=
  ⟨(Below.refl _ _).alloc (Nat.le_refl _) _, by simp, by simp [go_sem], by simp [go_sem], by simp [go_sem], by simp [go_sem], by simp [go_sem], by simp [go_sem]⟩
theorem Res3.step {w W W' : World} {a b c : Value} (h : Res3 w W a b c) (hb : Below W.heap.size W W') : Res3 w W' a b c :=
  ⟨h.bel.trans (hb.mono h.bel.size), Nat.lt_of_lt_of_le h.lt hb.size, (hb.cell h.lt).trans h.c0, (hb.cell h.lt).trans h.c1, (hb.cell h.lt).trans h.c2, (hb.frozen h.lt).trans h.z0, (hb.frozen h.lt).trans h.z1, (hb.frozen h.lt).trans h.z2⟩
def zv : Val := ⟨0, 0, em⟩
/-- The first k values, and zero ones behind them. -/
def mixV (l : List Val) (k : Nat) : List Val := l.take k ++ List.replicate (l.length - k) zv
theorem mixV_len (l : List Val) (k : Nat) (h : k ≤ l.length) : (mixV l k).length = l.length := by unfold mixV; simp; omega
theorem mixV_full (l : List Val) (k : Nat) (h : l.length ≤ k) : mixV l k = l := by
  unfold mixV; rw [List.take_of_length_le h, Nat.sub_eq_zero_of_le h]; simp
theorem mixV_set (l : List Val) (k : Nat) (h : k < l.length) : (mixV l k).set k l[k] = mixV l (k + 1) := by
  unfold mixV
  have hl : (l.take k).length = k := by simp; omega
  rw [List.take_succ_eq_append_getElem h, List.append_assoc, List.set_append_right _ _ (by omega)]
  congr 1
  rw [hl, Nat.sub_self]
  obtain ⟨m, hm⟩ : ∃ m, l.length - k = m + 1 := ⟨l.length - k - 1, by omega⟩
  rw [hm, List.replicate_succ, show l.length - (k + 1) = m by omega]
  rfl
theorem flat_cons (v : Val) (l : List Val) : flat (v :: l) = .int .i64 v.k :: .int .i64 v.n :: .string v.t :: flat l := rfl
theorem flat_set : ∀ (l : List Val) (k : Nat) (v : Val), k < l.length → (((flat l).set (k * 3) (.int .i64 v.k)).set (k * 3 + 1) (.int .i64 v.n)).set (k * 3 + 2) (.string v.t) = flat (l.set k v)
  | [], k, v, h => by simp at h
  | u :: l, 0, v, _ => rfl
  | u :: l, k + 1, v, h => by
    rw [List.set_cons_succ, flat_cons, flat_cons, ← flat_set l k v (by simpa using h)]
    rw [show (k + 1) * 3 = k * 3 + 1 + 1 + 1 by omega]
    rfl
theorem flat_len (l : List Val) : (flat l).length = l.length * 3 := by
  induction l with
  | nil => rfl
  | cons v l ih => rw [flat_cons]; simp [ih]; omega
theorem made_zero (n : Nat) : (madeCells (Value.agg #[.int .i64 0, .int .i64 0, .string em]).cells (n * 3)).toList = flat (List.replicate n zv) := by
  apply List.ext_getElem?
  intro j
  by_cases hj : j < n * 3
  · have hg := flat_get (List.replicate n zv) (j / 3) (by simp; omega)
    simp only [List.getElem_replicate] at hg
    have hc : (Value.agg #[.int .i64 0, .int .i64 0, .string em]).cells = #[.int .i64 0, .int .i64 0, .string em] := by rfl
    rw [hc]
    have h3 : j % 3 = 0 ∨ j % 3 = 1 ∨ j % 3 = 2 := by omega
    rcases h3 with h3 | h3 | h3
    · have e : j = j / 3 * 3 := by omega
      rw [show (flat (List.replicate n zv))[j]? = (flat (List.replicate n zv))[j / 3 * 3]? by rw [← e], hg.1]
      simp [madeCells, hj, h3, zv]
    · have e : j = j / 3 * 3 + 1 := by omega
      rw [show (flat (List.replicate n zv))[j]? = (flat (List.replicate n zv))[j / 3 * 3 + 1]? by rw [← e], hg.2.1]
      simp [madeCells, hj, h3, zv]
    · have e : j = j / 3 * 3 + 2 := by omega
      rw [show (flat (List.replicate n zv))[j]? = (flat (List.replicate n zv))[j / 3 * 3 + 2]? by rw [← e], hg.2.2]
      simp [madeCells, hj, h3, zv]
  · rw [List.getElem?_eq_none (by simp [madeCells]; omega), List.getElem?_eq_none (by rw [flat_len]; simp; omega)]

theorem take_all (p : Val → Prop) (l : List Val) (k : Nat) (h : k < l.length) (h1 : ∀ v ∈ l.take k, p v) (h2 : p l[k]) : ∀ v ∈ l.take (k + 1), p v := by
  intro v hv
  rw [List.take_succ_eq_append_getElem h] at hv
  rcases List.mem_append.mp hv with hv | hv
  · exact h1 v hv
  · rw [List.mem_singleton.mp hv]; exact h2

set_option maxRecDepth 4000 in
set_option maxHeartbeats 1000000 in
theorem szValueS_any (a : Option Addr) (cap : Nat) (l : List Val) (w : World) (hin : InV w a l) (hl : l.length ≤ maxLen) (hs : ∀ v ∈ l, v.t.size ≤ maxLen) :
    Calls Try.prog 9 #[.slice a l.length cap, .int .i64 1048576] w fun e w' => (∃ r : Int, e = .returned (.int .i64 r) ∧ (r < 0 ∨ (0 ≤ r ∧ l.length ≤ 1048576 ∧ ∀ v ∈ l, v.t.size ≤ 1048576))) ∧ Below w.heap.size w w' := by
  unfold maxLen at hl
  have HI : Hid _ := hin
  have HS : Hid _ := hs
  clear hin hs
  by_cases hbig : (1048576 : Int) < (l.length : Int)
  · go_enter Try.func9, Try.ntmps9
    go_wp2_with fail
    go_ret
    exact ⟨⟨-1, rfl, .inl (by omega)⟩, Below.refl _ _⟩
  · go_enter Try.func9, Try.ntmps9
    go_wp2_with fail
    go_loopw [1, 5] (fun u i wr => ∃ k : Nat, k ≤ l.length ∧ i = .int .i64 k ∧ ∃ c : Int, u = .int .i64 c ∧ 0 ≤ c ∧ c ≤ 1048576 ∧ (∀ v ∈ l.take k, v.t.size ≤ 1048576) ∧ Below w.heap.size w wr) (fun _ i _ => l.length - (intOf i).toNat)
    case atStart => exact ⟨0, Nat.zero_le _, rfl, _, rfl, by omega, by omega, fun v hv => by simp at hv, Below.refl _ _⟩
    case round =>
      obtain ⟨k, hk, rfl, c, rfl, hc0, hc1, hall, hbel⟩ := hrel
      have HA : Hid _ := hall
      clear hall
      by_cases hlt : k < l.length
      · rcases HI.out with h0 | ⟨b, off, rfl, hbl, hcell⟩
        · omega
        · have x0 := (hbel.cell hbl).trans (hcell k hlt).1
          have x1 := (hbel.cell hbl).trans (hcell k hlt).2.1
          have x2 := (hbel.cell hbl).trans (hcell k hlt).2.2
          have hsz := HS.out l[k] (List.getElem_mem _)
          clear hcell
          by_cases hover : c < (l[k].t.size : Int)
          · go_wp2_with (go_at_call 14; refine (szValue_any _ _ _ c _ hsz hc0 hc1).mono ?_; rintro e w1 ⟨rfl, hb⟩; rw [if_pos hover])
            go_ret
            exact ⟨⟨-1, rfl, .inl (by omega)⟩, hbel.trans (hb.mono hbel.size)⟩
          · have hpos : ¬ (c - (l[k].t.size : Int) < 0) := by omega
            have hnn : (0 : Int) ≤ (l[k].t.size : Int) := by omega
            go_wp2_with (go_at_call 14; refine (szValue_any _ _ _ c _ hsz hc0 hc1).mono ?_; rintro e w1 ⟨rfl, hb⟩; rw [if_neg hover])
            go_roundw
            case rel => exact ⟨k + 1, by omega, by go_num, c - l[k].t.size, rfl, by omega, by omega, take_all _ l k hlt HA.out (by omega), hbel.trans (hb.mono hbel.size)⟩
            case measure => simp [intOf]; omega
      · go_wp2_with fail
        go_ret
        exact ⟨⟨c, rfl, .inr ⟨hc0, by omega, by have := HA.out; rw [List.take_of_length_le (by omega)] at this; exact this⟩⟩, hbel⟩

set_option maxRecDepth 4000 in
set_option maxHeartbeats 1000000 in
theorem toValueS_any (a : Option Addr) (cap : Nat) (l : List Val) (w : World) (hin : InV w a l) (hlen : l.length ≤ 1048576) :
    Calls Try.prog 11 #[.slice a l.length cap] w fun e w' => (∃ g, e = .returned (.slice (some ⟨g, 0, none⟩) l.length l.length) ∧ w.heap.size ≤ g ∧ ReadV w' g l) ∧ Below w.heap.size w w' := by
  obtain ⟨i0, hi, hz0, hz1, hz2⟩ := info_parts infoV
  have HI : Hid _ := hin
  clear hin
  go_enter Try.func11, Try.ntmps11
  go_wp2_with (refine wpList_make_full _ rfl (.tmp 6) (.tmp 6) 27 rfl w.heap.size 36 i0 (.agg #[.int .i64 0, .int .i64 0, .string em]) 3 Try.underlying27 hi hz0 hz1 .i64 .i64 _ _ l.length rfl rfl rfl rfl (by rw [hz2]; omega) (by unfold maxLen; omega) (Nat.le_refl _) ?_; intro w1 hown1 hgrow1)
  have hb1 : Below w.heap.size w w1 := Below.grown (Below.refl _ _) hgrow1 (Nat.le_refl _) (fun k h => by cases h)
  have hz : w.heap.size < w1.heap.size := (World.ownsRow.lt hown1 w.heap.size rfl).2
  rw [made_zero, show List.replicate l.length zv = mixV l 0 from by simp [mixV]] at hown1
  clear hgrow1
  go_loopw [4] (fun i wr => ∃ k : Nat, k ≤ l.length ∧ i = .int .i64 k ∧ wr.ownsRow w.heap.size 36 3 (.slice (some ⟨w.heap.size, 0, none⟩) l.length l.length) l.length (flat (mixV l k)) ∧ Below w.heap.size w wr) (fun i _ => l.length - (intOf i).toNat)
  case atStart => exact ⟨0, Nat.zero_le _, rfl, hown1, hb1⟩
  case round =>
    obtain ⟨k, hk, rfl, hown, hbel⟩ := hrel
    clear hown1 hb1 hz
    by_cases hlt : k < l.length
    · rcases HI.out with h0 | ⟨b, off, rfl, hbl, hc⟩
      · omega
      · have x0 := (hbel.cell hbl).trans (hc k hlt).1
        have x1 := (hbel.cell hbl).trans (hc k hlt).2.1
        have x2 := (hbel.cell hbl).trans (hc k hlt).2.2
        have hz := hbel.size
        have HO : Hid _ := hown
        have HB : Hid _ := hbel
        have hgl : w.heap.size < wr.heap.size := (hown.lt _ rfl).2
        clear hc hown hbel
        go_wp2_with fail
        refine (toValue_any _ _ _ _).mono ?_
        rintro e w2 ⟨rfl, hb2⟩
        have hown2 := owns_below HO.out hb2
        have hm := mixV_len l k hk
        have hg := flat_get (mixV l k) k (by omega)
        obtain ⟨z0, y0⟩ : ∃ u, w2.cell? ⟨w.heap.size, k * 3, none⟩ = some u := ⟨_, owns_cell hown2 _ _ hg.1⟩
        obtain ⟨z1, y1⟩ : ∃ u, w2.cell? ⟨w.heap.size, k * 3 + 1, none⟩ = some u := ⟨_, owns_cell hown2 _ _ hg.2.1⟩
        obtain ⟨z2, y2⟩ : ∃ u, w2.cell? ⟨w.heap.size, k * 3 + 2, none⟩ = some u := ⟨_, owns_cell hown2 _ _ hg.2.2⟩
        have f0 := World.ownsRow.frozenAt hown2 (k * 3)
        have f1 := World.ownsRow.frozenAt hown2 (k * 3 + 1)
        have f2 := World.ownsRow.frozenAt hown2 (k * 3 + 2)
        have hst := (World.ownsRow.stored ((World.ownsRow.stored ((World.ownsRow.stored hown2 (k * 3) (.int .i64 l[k].k)).1) (k * 3 + 1) (.int .i64 l[k].n)).1) (k * 3 + 2) (.string l[k].t)).1
        rw [flat_set _ _ _ (by omega), mixV_set l k hlt] at hst
        have HS : Hid _ := hst
        have HB2 : Hid _ := HB.out.trans (hb2.mono HB.out.size)
        have hz2 := hb2.size
        clear hst hown2 hg hm hb2
        go_wp2_with fail
        go_roundw
        case rel => exact ⟨k + 1, by omega, by go_num, HS.out, ((HB2.out.setCell (Nat.le_refl _) _).setCell (Nat.le_refl _) _).setCell (Nat.le_refl _) _⟩
        case measure => simp [intOf]; omega
    · go_wp2_with fail
      go_ret
      rw [mixV_full l k (by omega)] at hown
      exact ⟨⟨w.heap.size, rfl, Nat.le_refl _, ReadV.of_own hown⟩, hbel⟩

set_option maxRecDepth 4000 in
set_option maxHeartbeats 1000000 in
theorem eqValueS_same (g1 c1 g2 c2 : Nat) (l : List Val) (w : World) (h1 : ReadV w g1 l) (h2 : ReadV w g2 l) (hlen : l.length ≤ 1048576) :
    Calls Try.prog 13 #[.slice (some ⟨g1, 0, none⟩) l.length c1, .slice (some ⟨g2, 0, none⟩) l.length c2] w fun e w' => e = .returned (.bool true) ∧ Below w.heap.size w w' := by
  have H1 : Hid _ := h1
  have H2 : Hid _ := h2
  clear h1 h2
  go_enter Try.func13, Try.ntmps13
  go_wp2_with fail
  go_loopw [5] (fun i wr => ∃ k : Nat, k ≤ l.length ∧ i = .int .i64 k ∧ Below w.heap.size w wr) (fun i _ => l.length - (intOf i).toNat)
  case atStart => exact ⟨0, Nat.zero_le _, rfl, Below.refl _ _⟩
  case round =>
    obtain ⟨k, hk, rfl, hbel⟩ := hrel
    by_cases hlt : k < l.length
    · have x1 := (H1.out.next hbel).cells k hlt
      have x2 := (H2.out.next hbel).cells k hlt
      have l1 := (H1.out.next hbel).lt
      have l2 := (H2.out.next hbel).lt
      have hk1 : (k : Int) < (l.length : Int) := by omega
      have q0 : ∀ u : Under wr, u.x.cell? ⟨g1, k * 3, none⟩ = some (.int .i64 l[k].k) := fun u => (u.h.cell l1).trans x1.1
      have q1 : ∀ u : Under wr, u.x.cell? ⟨g1, k * 3 + 1, none⟩ = some (.int .i64 l[k].n) := fun u => (u.h.cell l1).trans x1.2.1
      have q2 : ∀ u : Under wr, u.x.cell? ⟨g1, k * 3 + 2, none⟩ = some (.string l[k].t) := fun u => (u.h.cell l1).trans x1.2.2
      have r0 : ∀ u : Under wr, u.x.cell? ⟨g2, k * 3, none⟩ = some (.int .i64 l[k].k) := fun u => (u.h.cell l2).trans x2.1
      have r1 : ∀ u : Under wr, u.x.cell? ⟨g2, k * 3 + 1, none⟩ = some (.int .i64 l[k].n) := fun u => (u.h.cell l2).trans x2.2.1
      have r2 : ∀ u : Under wr, u.x.cell? ⟨g2, k * 3 + 2, none⟩ = some (.string l[k].t) := fun u => (u.h.cell l2).trans x2.2.2
      have hnu : Nonempty (Under wr) := ⟨⟨wr, Below.refl _ _⟩⟩
      clear x1 x2
      go_wp2_with fail
      refine wp_region_under (by kernel_rfl) (by kernel_rfl) ?_
      repeat (go_big_quiet_step ((go_at_call 16; exact calls_under _ (eqValue_same l[k].k l[k].n l[k].t _))))
      refine wpQuiet_nil ?_
      rintro _ ⟨u, rfl⟩
      go_wp2_with fail
      go_roundw
      case rel => exact ⟨k + 1, by omega, by go_num, hbel.trans (u.h.mono hbel.size)⟩
      case measure => simp [intOf]; omega
    · go_wp2_with fail
      go_ret
      exact ⟨rfl, hbel⟩

end Go.Proofs.Ytpfbepbmiillbaa
