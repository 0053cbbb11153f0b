/- Rows of pages, and trees: what the laws' own helpers on them answer. -/
import Derived.Test.YtaohljkmnojiiaaTrE
namespace Go.Proofs.Ytaohljkmnojiiaa.Tr
open Go.RowKit
set_option linter.unusedVariables false

theorem infoP : (Try.prog.info? 101).map (fun i => (i.zero, i.size, i.bytes)) = some (some (.agg #[.int .i64 0, .slice none 0 0]), 2, 32) := by kernel_rfl
/-- A row of pages that stands at a block's head. -/
structure ReadP (w : World) (g : Nat) (f : List Pg) : Prop where
  lt : g < w.heap.size
  cells : ∀ i (h : i < f.length), w.cell? ⟨g, i * 2, none⟩ = some (.int .i64 f[i].num) ∧ ∃ p cap, w.cell? ⟨g, i * 2 + 1, none⟩ = some (.slice p f[i].es.length cap) ∧ InE w p f[i].es
theorem ReadP.next {w w' : World} {g : Nat} {f : List Pg} (h : ReadP w g f) (hb : Below w.heap.size w w') : ReadP w' g f :=
  ⟨Nat.lt_of_lt_of_le h.lt hb.size, fun i hi => by
    obtain ⟨h0, p, cap, hc, hr⟩ := h.cells i hi
    exact ⟨(hb.cell h.lt).trans h0, p, cap, (hb.cell h.lt).trans hc, hr.step hb⟩⟩
/-- A row of pages, a nil one too. -/
def RowP (w : World) (p : Option Addr) (f : List Pg) : Prop := f = [] ∨ ∃ g, p = some ⟨g, 0, none⟩ ∧ ReadP w g f
theorem RowP.next {w w' : World} {p : Option Addr} {f : List Pg} (h : RowP w p f) (hb : Below w.heap.size w w') : RowP w' p f := by
  rcases h with h | ⟨g, hp, hr⟩
  · exact .inl h
  · exact .inr ⟨g, hp, hr.next hb⟩
/-- Pages that came in. -/
def InP (w : World) (a : Option Addr) (f : List Pg) : Prop := f.length = 0 ∨ ∃ b off, a = some ⟨b, off, none⟩ ∧ b < w.heap.size ∧ ∀ i (h : i < f.length), w.cell? ⟨b, off + i * 2, none⟩ = some (.int .i64 f[i].num) ∧ ∃ p cap, w.cell? ⟨b, off + i * 2 + 1, none⟩ = some (.slice p f[i].es.length cap) ∧ InE w p f[i].es
theorem InP.step {w w' : World} {a : Option Addr} {f : List Pg} (h : InP w a f) (hb : Below w.heap.size w w') : InP w' a f := by
  rcases h with h | ⟨b, off, ha, hlt, hc⟩
  · exact .inl h
  · exact .inr ⟨b, off, ha, Nat.lt_of_lt_of_le hlt hb.size, fun i hi => by
      obtain ⟨h0, p, cap, h1, h2⟩ := hc i hi
      exact ⟨(hb.cell hlt).trans h0, p, cap, (hb.cell hlt).trans h1, h2.step hb⟩⟩
def szP (p : Pg) : Prop := p.es.length ≤ 1048576 ∧ ∀ v ∈ p.es, szE v
def maxP (p : Pg) : Prop := p.es.length ≤ maxLen ∧ ∀ v ∈ p.es, maxE v
theorem take_allP (p : Pg → Prop) (l : List Pg) (k : Nat) (h : k < l.length) (h1 : ∀ v ∈ l.take k, p v) (h2 : p l[k]) : ∀ v ∈ l.take (k + 1), p v := by
  intro v hv
  rw [List.take_succ_eq_append_getElem h] at hv
  rcases List.mem_append.mp hv with hv | hv
  · exact h1 v hv
  · rw [List.mem_singleton.mp hv]; exact h2

set_option maxRecDepth 4000 in
set_option maxHeartbeats 1000000 in
theorem szPage_any (num : Int) (a : Option Addr) (cap : Nat) (l : List Ent) (c0 : Int) (w : World) (hin : InE w a l) (hm : l.length ≤ maxLen ∧ ∀ v ∈ l, maxE v) (h0 : 0 ≤ c0) (h1 : c0 ≤ 1048576) :
    Calls Try.prog 133 #[.agg #[.int .i64 num, .slice a l.length cap], .int .i64 c0] w fun e w' => (∃ r : Int, e = .returned (.int .i64 r) ∧ (r < 0 ∨ (0 ≤ r ∧ r ≤ c0 ∧ l.length ≤ 1048576 ∧ ∀ v ∈ l, szE v))) ∧ Below w.heap.size w w' := by
  have hb0 : Below w.heap.size w (w.alloc (.cells #[.int .i64 num, .slice a l.length cap] 170)) := (Below.refl _ _).alloc (Nat.le_refl _) _
  have HC : Hid (Calls _ _ _ _ _) := szEntryS_any a cap l c0 (w.alloc (.cells #[.int .i64 num, .slice a l.length cap] 170)) (hin.step hb0) hm.1 hm.2 h0 h1
  clear hin hm
  go_enter Try.func133, Try.ntmps133
  go_wp2_with fail
  refine HC.out.mono ?_
  rintro e w1 ⟨⟨r, rfl, hr⟩, hb⟩
  have hb1 := hb0.trans (hb.mono hb0.size)
  clear hb HC
  rcases hr with hneg | ⟨hr0, hr1, hr2, hr3⟩
  · go_wp2_with fail
    go_ret
    exact ⟨⟨-1, rfl, .inl (by omega)⟩, hb1⟩
  · have hnn : ¬ r < 0 := by omega
    have HS : Hid (l.length ≤ 1048576 ∧ ∀ v ∈ l, szE v) := ⟨hr2, hr3⟩
    clear hr2 hr3
    go_wp2_with fail
    go_ret
    exact ⟨⟨r, rfl, .inr ⟨hr0, hr1, HS.out⟩⟩, hb1⟩

set_option maxRecDepth 4000 in
set_option maxHeartbeats 1000000 in
theorem szPageS_any (a : Option Addr) (cap : Nat) (f : List Pg) (c0 : Int) (w : World) (hin : InP w a f) (hl : f.length ≤ maxLen) (hs : ∀ l ∈ f, maxP l) (h0 : 0 ≤ c0) (h1 : c0 ≤ 1048576) :
    Calls Try.prog 82 #[.slice a f.length cap, .int .i64 c0] w fun e w' => (∃ r : Int, e = .returned (.int .i64 r) ∧ (r < 0 ∨ (0 ≤ r ∧ r ≤ c0 ∧ f.length ≤ 1048576 ∧ ∀ l ∈ f, szP l))) ∧ Below w.heap.size w w' := by
  unfold maxLen at hl
  have HI : Hid (InP _ _ _) := hin
  have HS : Hid _ := hs
  clear hin hs
  by_cases hbig : c0 < (f.length : Int)
  · have hneg : c0 - (f.length : Int) < 0 := by omega
    go_enter Try.func82, Try.ntmps82
    go_wp2_with fail
    go_ret
    exact ⟨⟨-1, rfl, .inl (by omega)⟩, Below.refl _ _⟩
  · have hneg : ¬ c0 - (f.length : Int) < 0 := by omega
    go_enter Try.func82, Try.ntmps82
    go_wp2_with fail
    go_loopw [1, 5] (fun u i wr => ∃ k : Nat, k ≤ f.length ∧ i = .int .i64 k ∧ ∃ c : Int, u = .int .i64 c ∧ 0 ≤ c ∧ c ≤ c0 ∧ (∀ v ∈ f.take k, szP v) ∧ Below w.heap.size w wr) (fun _ i _ => f.length - (intOf i).toNat)
    case atStart => exact ⟨0, Nat.zero_le _, rfl, _, rfl, by omega, by omega, (fun v hv => by simp at hv), Below.refl _ _⟩
    case round =>
      obtain ⟨k, hk, rfl, c, rfl, hc0, hc1, hall, hbel⟩ := hrel
      have HA : Hid _ := hall
      clear hall
      by_cases hlt : k < f.length
      · rcases HI.out.step hbel with h0' | ⟨b, off, rfl, hbl, hcell⟩
        · omega
        · have hlt2 : (k : Int) < (f.length : Int) := by omega
          obtain ⟨x0, p, pc, x1, hT⟩ := hcell k hlt
          have HC : Hid (Calls _ _ _ _ _) := szPage_any f[k].num p pc f[k].es c wr hT (HS.out f[k] (List.getElem_mem _)) hc0 (by omega)
          clear hcell hT
          go_wp2_with fail
          refine HC.out.mono ?_
          rintro e w1 ⟨⟨r, rfl, hr⟩, hb⟩
          have hb1 := hbel.trans (hb.mono hbel.size)
          clear hb HC
          rcases hr with hneg2 | ⟨hr0, hr1, hr2⟩
          · go_wp2_with fail
            go_ret
            exact ⟨⟨-1, rfl, .inl (by omega)⟩, hb1⟩
          · have hnn : ¬ r < 0 := by omega
            have HSZ : Hid (szP f[k]) := hr2
            clear hr2
            go_wp2_with fail
            go_roundw
            case rel => exact ⟨k + 1, by omega, by go_num, r, rfl, by omega, by omega, take_allP _ f k hlt HA.out HSZ.out, hb1⟩
            case measure => simp [intOf]; omega
      · have hlt2 : ¬ (k : Int) < (f.length : Int) := by omega
        go_wp2_with fail
        go_ret
        exact ⟨⟨c, rfl, .inr ⟨hc0, hc1, by omega, by have := HA.out; rw [List.take_of_length_le (by omega)] at this; exact this⟩⟩, hbel⟩
set_option maxRecDepth 4000 in
set_option maxHeartbeats 1000000 in
theorem szTree_any (a : Option Addr) (cap : Nat) (f : List Pg) (next : Int) (c0 : Int) (w : World) (hin : InP w a f) (hl : f.length ≤ maxLen) (hs : ∀ l ∈ f, maxP l) (h0 : 0 ≤ c0) (h1 : c0 ≤ 1048576) :
    Calls Try.prog 36 #[.agg #[.slice a f.length cap, .int .i64 next], .int .i64 c0] w fun e w' => (∃ r : Int, e = .returned (.int .i64 r) ∧ (r < 0 ∨ (0 ≤ r ∧ r ≤ c0 ∧ f.length ≤ 1048576 ∧ ∀ l ∈ f, szP l))) ∧ Below w.heap.size w w' := by
  have hb0 : Below w.heap.size w (w.alloc (.cells #[.slice a f.length cap, .int .i64 next] 65)) := (Below.refl _ _).alloc (Nat.le_refl _) _
  have HC : Hid (Calls _ _ _ _ _) := szPageS_any a cap f c0 (w.alloc (.cells #[.slice a f.length cap, .int .i64 next] 65)) (hin.step hb0) hl hs h0 h1
  clear hin hs
  go_enter Try.func36, Try.ntmps36
  go_wp2_with fail
  refine HC.out.mono ?_
  rintro e w1 ⟨⟨r, rfl, hr⟩, hb⟩
  have hb1 := hb0.trans (hb.mono hb0.size)
  clear hb HC
  rcases hr with hneg | ⟨hr0, hr1, hr2, hr3⟩
  · go_wp2_with fail
    go_ret
    exact ⟨⟨-1, rfl, .inl (by omega)⟩, hb1⟩
  · have hnn : ¬ r < 0 := by omega
    have HS : Hid (∀ l ∈ f, szP l) := hr3
    clear hr3
    go_wp2_with fail
    go_ret
    exact ⟨⟨r, rfl, .inr ⟨hr0, hr1, hr2, HS.out⟩⟩, hb1⟩

/-- The first k of a row of n pages, owned with all their entries, from block number base on; no two of these rows lie in one block. -/
structure PartT (w : World) (base : Nat) (v : Value) (n : Nat) (f : List Pg) (k : Nat) (vs : Nat → Value) (xs : List Value) : Prop where
  row : w.ownsRow base 101 2 v n xs
  at_ : ∀ i (h : i < f.length), i < k → xs[i * 2]? = some (.int .i64 f[i].num) ∧ xs[i * 2 + 1]? = some (vs i)
  ents : ∀ i (h : i < f.length), i < k → OwnE w base (vs i) f[i].es
  apart : ∀ i j, i < f.length → j < f.length → i < k → j < k → i ≠ j → (vs i).ownBlock = none ∨ (vs i).ownBlock ≠ (vs j).ownBlock
  aside : ∀ i, i < f.length → i < k → (vs i).ownBlock = none ∨ (vs i).ownBlock ≠ v.ownBlock
theorem PartT.next {w w' : World} {base : Nat} {v : Value} {n : Nat} {f : List Pg} {k : Nat} {vs : Nat → Value} {xs : List Value} (h : PartT w base v n f k vs xs) (hb : Below w.heap.size w w') : PartT w' base v n f k vs xs :=
  ⟨owns_below h.row hb, h.at_, fun i hi hk => owns_below (h.ents i hi hk) hb, h.apart, h.aside⟩
theorem PartT.grown {w w' : World} {base : Nat} {v : Value} {n : Nat} {f : List Pg} {k : Nat} {vs : Nat → Value} {xs : List Value} {b : Nat} (h : PartT w base v n f k vs xs) (hg : w.grownBy w' (some b)) (hb : b < base) : PartT w' base v n f k vs xs := by
  have hne : ∀ {T : TypeId} {s : Nat} {u : Value} {m : Nat} {ys : List Value}, w.ownsRow base T s u m ys → u.ownBlock = none ∨ u.ownBlock ≠ some b := by
    intro T s u m ys ho
    cases hu : u.ownBlock with
    | none => exact .inl rfl
    | some q => exact .inr (fun e => by injection e with e; have := (ho.lt q hu).1; omega)
  exact ⟨h.row.kept hg (hne h.row), h.at_, fun i hi hk => World.ownsRow.kept (h.ents i hi hk) hg (hne (h.ents i hi hk)), h.apart, h.aside⟩
theorem PartT.store {w : World} {base g cap n : Nat} {f : List Pg} {k : Nat} {vs : Nat → Value} {xs : List Value} {u : Value} (h : PartT w base (.slice (some ⟨g, 0, none⟩) n cap) n f k vs xs) (hk : k < f.length) (hn : k < n)
    (hu : OwnE w base u f[k].es) (ha : u.ownBlock = none ∨ u.ownBlock ≠ some g) (hv : ∀ i, i < f.length → i < k → u.ownBlock = none ∨ u.ownBlock ≠ (vs i).ownBlock) :
    PartT ((w.setCell ⟨g, k * 2, none⟩ (.int .i64 f[k].num)).setCell ⟨g, k * 2 + 1, none⟩ u) base (.slice (some ⟨g, 0, none⟩) n cap) n f (k + 1) (fun i => if i = k then u else vs i) ((xs.set (k * 2) (.int .i64 f[k].num)).set (k * 2 + 1) u) := by
  have hr := (World.ownsRow.stored (World.ownsRow.stored h.row (k * 2) (.int .i64 f[k].num)).1 (k * 2 + 1) u).1
  have hl : xs.length = n * 2 := h.row.1
  have kept : ∀ {x : Value} {m : Nat} {ys : List Value}, w.ownsRow base 40 2 x m ys → (x.ownBlock = none ∨ x.ownBlock ≠ some g) → ((w.setCell ⟨g, k * 2, none⟩ (.int .i64 f[k].num)).setCell ⟨g, k * 2 + 1, none⟩ u).ownsRow base 40 2 x m ys :=
    fun ho hne => (ho.kept grown_set hne).kept grown_set hne
  refine ⟨hr, ?_, ?_, ?_, ?_⟩
  · intro i hi hik
    by_cases e : i = k
    · subst e
      rw [if_pos rfl, List.getElem?_set_ne (by omega), List.getElem?_set_self (by omega), List.getElem?_set_self (by simp; omega)]
      exact ⟨rfl, rfl⟩
    · rw [if_neg e, List.getElem?_set_ne (by omega), List.getElem?_set_ne (by omega), List.getElem?_set_ne (by omega), List.getElem?_set_ne (by omega)]
      exact h.at_ i hi (by omega)
  · intro i hi hik
    by_cases e : i = k
    · subst e; simp only [if_pos]; exact kept hu ha
    · simp only [if_neg e]; exact kept (h.ents i hi (by omega)) (h.aside i hi (by omega))
  · intro i j hi hj hik hjk hne
    by_cases e : i = k
    · subst e
      have e2 : ¬ j = i := fun e => hne e.symm
      simp only [if_pos, if_neg e2]
      exact hv j hj (by omega)
    · by_cases e2 : j = k
      · subst e2
        simp only [if_pos, if_neg e]
        rcases hv i hi (by omega) with hx | hx
        · rw [hx]
          cases hvi : (vs i).ownBlock with
          | none => exact .inl rfl
          | some q => exact .inr (by simp)
        · exact .inr (fun e => hx e.symm)
      · simp only [if_neg e, if_neg e2]
        exact h.apart i j hi hj (by omega) (by omega) hne
  · intro i hi hik
    by_cases e : i = k
    · subst e; simp only [if_pos]; exact ha
    · simp only [if_neg e]; exact h.aside i hi (by omega)
/-- A tree's pages, owned. -/
def OwnT (w : World) (base : Nat) (v : Value) (f : List Pg) : Prop := ∃ vs xs, PartT w base v f.length f f.length vs xs
theorem OwnT.next {w w' : World} {base : Nat} {v : Value} {f : List Pg} (h : OwnT w base v f) (hb : Below w.heap.size w w') : OwnT w' base v f := by
  obtain ⟨vs, xs, h⟩ := h
  exact ⟨vs, xs, h.next hb⟩
theorem OwnT.grown {w w' : World} {base b : Nat} {v : Value} {f : List Pg} (h : OwnT w base v f) (hg : w.grownBy w' (some b)) (hb : b < base) : OwnT w' base v f := by
  obtain ⟨vs, xs, h⟩ := h
  exact ⟨vs, xs, h.grown hg hb⟩
theorem OwnT.mono {w : World} {base base' : Nat} {v : Value} {f : List Pg} (h : OwnT w base v f) (hb : base' ≤ base) : OwnT w base' v f := by
  obtain ⟨vs, xs, h⟩ := h
  exact ⟨vs, xs, owns_mono h.row hb, h.at_, fun i hi hk => owns_mono (h.ents i hi hk) hb, h.apart, h.aside⟩
theorem OwnT.rowP {w : World} {base g cap n : Nat} {f : List Pg} (h : OwnT w base (.slice (some ⟨g, 0, none⟩) n cap) f) : RowP w (some ⟨g, 0, none⟩) f := by
  obtain ⟨vs, xs, h⟩ := h
  exact .inr ⟨g, rfl, (h.row.lt g rfl).2, fun i hi => by
    obtain ⟨a0, a1⟩ := h.at_ i hi hi
    obtain ⟨p, c, e1, e2⟩ := (h.ents i hi hi).inE
    exact ⟨owns_cell h.row _ _ a0, p, c, by rw [← e1]; exact owns_cell h.row _ _ a1, e2⟩⟩
theorem OwnT.form {w : World} {base : Nat} {v : Value} {f : List Pg} (h : OwnT w base v f) : (v = .slice none 0 0 ∧ f = []) ∨ ∃ g cap, v = .slice (some ⟨g, 0, none⟩) f.length cap ∧ base ≤ g ∧ ReadP w g f := by
  obtain ⟨vs, xs, h⟩ := h
  have hrow := h.row
  have hlt := World.ownsRow.lt h.row
  obtain ⟨h1, h2⟩ := hrow
  rcases h2 with ⟨h2, h3⟩ | ⟨g, cap, cur, hv, hg, hh, r⟩
  · exact .inl ⟨h2, List.length_eq_zero_iff.1 h3⟩
  · refine .inr ⟨g, cap, hv, hg, (hlt g (by rw [hv]; rfl)).2, fun i hi => ?_⟩
    obtain ⟨a0, a1⟩ := h.at_ i hi hi
    obtain ⟨p, c, e1, e2⟩ := (h.ents i hi hi).inE
    have hrow := h.row
    rw [hv] at hrow
    exact ⟨owns_cell hrow _ _ a0, p, c, by rw [← e1]; exact owns_cell hrow _ _ a1, e2⟩

set_option maxRecDepth 4000 in
set_option maxHeartbeats 1000000 in
theorem toPage_any (num : Int) (a : Option Addr) (cap : Nat) (l : List Ent) (w : World) (hin : InE w a l) (hlen : l.length ≤ 1048576) :
    Calls Try.prog 134 #[.agg #[.int .i64 num, .slice a l.length cap]] w fun e w' => (∃ g, e = .returned (.agg #[.int .i64 num, .slice (some ⟨g, 0, none⟩) l.length l.length]) ∧ OwnE w' w.heap.size (.slice (some ⟨g, 0, none⟩) l.length l.length) l) ∧ Below w.heap.size w w' := by
  have hb0 : Below w.heap.size w (((w.alloc (.cells #[.int .i64 num, .slice a l.length cap] 170)).alloc (.cells #[.int .i64 0, .slice none 0 0] 101)).alloc (.cells #[.int .i64 num, .slice none 0 0] 101)) := (((Below.refl _ _).alloc (Nat.le_refl _) _).alloc (by simp) _).alloc (by simp; omega) _
  have HC : Hid (Calls _ _ _ _ _) := toEntryS_any a cap l _ (hin.step hb0) hlen
  clear hin
  go_enter Try.func134, Try.ntmps134
  go_wp2_with fail
  refine HC.out.mono ?_
  rintro e w1 ⟨⟨g, rfl, hR⟩, hb⟩
  obtain ⟨hc, hf⟩ := bcell hb
  have hz : w.heap.size + 2 < w1.heap.size := by have := hb.size; simp at this; omega
  have hbw : Below w.heap.size w w1 := hb0.trans (hb.mono (by simp; omega))
  have hg : w.heap.size + 3 ≤ g := by have := (World.ownsRow.lt hR g rfl).1; simp at this; omega
  have HR : Hid (OwnE _ _ _ _) := hR
  clear hb HC hR hb0
  go_wp2_with fail
  refine bodyPost_ret (v := .agg #[.int .i64 num, .slice (some ⟨g, 0, none⟩) l.length l.length]) (by simp [results, Try.results134, go_sem, *]) rfl ⟨⟨g, rfl, ?_⟩, ?_⟩
  · have hne : ∀ m, m < w.heap.size + 3 → (Value.slice (some ⟨g, 0, none⟩) l.length l.length).ownBlock = none ∨ (Value.slice (some ⟨g, 0, none⟩) l.length l.length).ownBlock ≠ some m := fun m hm => .inr (fun e => by injection e with e; simp at e; omega)
    exact owns_mono (((World.ownsRow.kept HR.out grown_set (hne _ (by omega))).kept grown_set (hne _ (by omega))).kept grown_set (hne _ (by omega))) (by simp; omega)
  · (repeat (first | (with_reducible exact Below.refl _ _) | (with_reducible assumption) | (with_reducible apply below_drewN) | (with_reducible apply Below.drew) | ((with_reducible refine Below.setCell ?_ ?_ _); rotate_left; focus (first | (simp; done) | (simp; omega) | omega)) | ((with_reducible refine Below.alloc ?_ ?_ _); rotate_left; focus (first | (simp; done) | (simp; omega) | omega))))

end Go.Proofs.Ytaohljkmnojiiaa.Tr
