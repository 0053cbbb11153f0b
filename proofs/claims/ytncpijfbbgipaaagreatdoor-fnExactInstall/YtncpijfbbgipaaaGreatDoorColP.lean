/- Rows of chains: what the laws' own helpers on them answer. -/
import Derived.Test.YtncpijfbbgipaaaGreatDoorColV
namespace Go.Proofs.YtncpijfbbgipaaaGreatDoor.Co
open Go.RowKit Tr
set_option linter.unusedVariables false

/-- A chain of versions. -/
structure Chn where
  id : Int
  vs : List Ver
theorem infoCh : (Tryz.prog.info? 67).map (fun i => (i.zero, i.size, i.bytes)) = some (some (.agg #[.int .i64 0, .slice none 0 0]), 2, 32) := by kernel_rfl
/-- A row of chains that stands at a block's head. -/
structure ReadCh (w : World) (g : Nat) (f : List Chn) : Prop where
  lt : g < w.heap.size
  cells : ∀ i (h : i < f.length), w.cell? ⟨g, i * 2, none⟩ = some (.int .i64 f[i].id) ∧ ∃ p cap, w.cell? ⟨g, i * 2 + 1, none⟩ = some (.slice p f[i].vs.length cap) ∧ InVr w p f[i].vs
theorem ReadCh.next {w w' : World} {g : Nat} {f : List Chn} (h : ReadCh w g f) (hb : Below w.heap.size w w') : ReadCh w' g f :=
  ⟨Nat.lt_of_lt_of_le h.lt hb.size, fun i hi => by
    obtain ⟨h0, p, cap, hc, hr⟩ := h.cells i hi
    exact ⟨(hb.cell h.lt).trans h0, p, cap, (hb.cell h.lt).trans hc, hr.step hb⟩⟩
/-- A row of chains, a nil one too. -/
def RowCh (w : World) (p : Option Addr) (f : List Chn) : Prop := f = [] ∨ ∃ g, p = some ⟨g, 0, none⟩ ∧ ReadCh w g f
theorem RowCh.next {w w' : World} {p : Option Addr} {f : List Chn} (h : RowCh w p f) (hb : Below w.heap.size w w') : RowCh w' p f := by
  rcases h with h | ⟨g, hp, hr⟩
  · exact .inl h
  · exact .inr ⟨g, hp, hr.next hb⟩
/-- Chains that came in. -/
def InCh (w : World) (a : Option Addr) (f : List Chn) : Prop := f.length = 0 ∨ ∃ b off, a = some ⟨b, off, none⟩ ∧ b < w.heap.size ∧ ∀ i (h : i < f.length), w.cell? ⟨b, off + i * 2, none⟩ = some (.int .i64 f[i].id) ∧ ∃ p cap, w.cell? ⟨b, off + i * 2 + 1, none⟩ = some (.slice p f[i].vs.length cap) ∧ InVr w p f[i].vs
theorem InCh.step {w w' : World} {a : Option Addr} {f : List Chn} (h : InCh w a f) (hb : Below w.heap.size w w') : InCh w' a f := by
  rcases h with h | ⟨b, off, ha, hlt, hc⟩
  · exact .inl h
  · exact .inr ⟨b, off, ha, Nat.lt_of_lt_of_le hlt hb.size, fun i hi => by
      obtain ⟨h0, p, cap, h1, h2⟩ := hc i hi
      exact ⟨(hb.cell hlt).trans h0, p, cap, (hb.cell hlt).trans h1, h2.step hb⟩⟩
def szCh (p : Chn) : Prop := p.vs.length ≤ 1048576 ∧ ∀ v ∈ p.vs, szVr v
def maxCh (p : Chn) : Prop := p.vs.length ≤ maxLen ∧ ∀ v ∈ p.vs, maxVr v
theorem take_allCh (p : Chn → Prop) (l : List Chn) (k : Nat) (h : k < l.length) (h1 : ∀ v ∈ l.take k, p v) (h2 : p l[k]) : ∀ v ∈ l.take (k + 1), p v := by
  intro v hv
  rw [List.take_succ_eq_append_getElem h] at hv
  rcases List.mem_append.mp hv with hv | hv
  · exact h1 v hv
  · rw [List.mem_singleton.mp hv]; exact h2

set_option maxRecDepth 4000 in
set_option maxHeartbeats 1000000 in
theorem szChain_any (num : Int) (a : Option Addr) (cap : Nat) (l : List Ver) (c0 : Int) (w : World) (hin : InVr w a l) (hm : l.length ≤ maxLen ∧ ∀ v ∈ l, maxVr v) (h0 : 0 ≤ c0) (h1 : c0 ≤ 1048576) :
    Calls Tryz.prog 41 #[.agg #[.int .i64 num, .slice a l.length cap], .int .i64 c0] w fun e w' => (∃ r : Int, e = .returned (.int .i64 r) ∧ (r < 0 ∨ (0 ≤ r ∧ r ≤ c0 ∧ l.length ≤ 1048576 ∧ ∀ v ∈ l, szVr v))) ∧ Below w.heap.size w w' := by
  have hb0 : Below w.heap.size w (w.alloc (.cells #[.int .i64 num, .slice a l.length cap] 77)) := (Below.refl _ _).alloc (Nat.le_refl _) _
  have HC : Hid (Calls _ _ _ _ _) := szVersionS_any a cap l c0 (w.alloc (.cells #[.int .i64 num, .slice a l.length cap] 77)) (hin.step hb0) hm.1 hm.2 h0 h1
  clear hin hm
  go_enter Tryz.func41, Tryz.ntmps41
  go_wp2_with fail
  refine HC.out.mono ?_
  rintro e w1 ⟨⟨r, rfl, hr⟩, hb⟩
  have hb1 := hb0.trans (hb.mono hb0.size)
  clear hb HC
  rcases hr with hneg | ⟨hr0, hr1, hr2, hr3⟩
  · go_wp2_with fail
    go_ret
    exact ⟨⟨-1, rfl, .inl (by omega)⟩, hb1⟩
  · have hnn : ¬ r < 0 := by omega
    have HS : Hid (l.length ≤ 1048576 ∧ ∀ v ∈ l, szVr v) := ⟨hr2, hr3⟩
    clear hr2 hr3
    go_wp2_with fail
    go_ret
    exact ⟨⟨r, rfl, .inr ⟨hr0, hr1, HS.out⟩⟩, hb1⟩

set_option maxRecDepth 4000 in
set_option maxHeartbeats 1000000 in
theorem szChainS_any (a : Option Addr) (cap : Nat) (f : List Chn) (c0 : Int) (w : World) (hin : InCh w a f) (hl : f.length ≤ maxLen) (hs : ∀ l ∈ f, maxCh l) (h0 : 0 ≤ c0) (h1 : c0 ≤ 1048576) :
    Calls Tryz.prog 16 #[.slice a f.length cap, .int .i64 c0] w fun e w' => (∃ r : Int, e = .returned (.int .i64 r) ∧ (r < 0 ∨ (0 ≤ r ∧ r ≤ c0 ∧ f.length ≤ 1048576 ∧ ∀ l ∈ f, szCh l))) ∧ Below w.heap.size w w' := by
  unfold maxLen at hl
  have HI : Hid (InCh _ _ _) := hin
  have HS : Hid _ := hs
  clear hin hs
  by_cases hbig : c0 < (f.length : Int)
  · have hneg : c0 - (f.length : Int) < 0 := by omega
    go_enter Tryz.func16, Tryz.ntmps16
    go_wp2_with fail
    go_ret
    exact ⟨⟨-1, rfl, .inl (by omega)⟩, Below.refl _ _⟩
  · have hneg : ¬ c0 - (f.length : Int) < 0 := by omega
    go_enter Tryz.func16, Tryz.ntmps16
    go_wp2_with fail
    go_loopw [1, 5] (fun u i wr => ∃ k : Nat, k ≤ f.length ∧ i = .int .i64 k ∧ ∃ c : Int, u = .int .i64 c ∧ 0 ≤ c ∧ c ≤ c0 ∧ (∀ v ∈ f.take k, szCh v) ∧ Below w.heap.size w wr) (fun _ i _ => f.length - (intOf i).toNat)
    case atStart => exact ⟨0, Nat.zero_le _, rfl, _, rfl, by omega, by omega, (fun v hv => by simp at hv), Below.refl _ _⟩
    case round =>
      obtain ⟨k, hk, rfl, c, rfl, hc0, hc1, hall, hbel⟩ := hrel
      have HA : Hid _ := hall
      clear hall
      by_cases hlt : k < f.length
      · rcases HI.out.step hbel with h0' | ⟨b, off, rfl, hbl, hcell⟩
        · omega
        · have hlt2 : (k : Int) < (f.length : Int) := by omega
          obtain ⟨x0, p, pc, x1, hT⟩ := hcell k hlt
          have HC : Hid (Calls _ _ _ _ _) := szChain_any f[k].id p pc f[k].vs c wr hT (HS.out f[k] (List.getElem_mem _)) hc0 (by omega)
          clear hcell hT
          go_wp2_with fail
          refine HC.out.mono ?_
          rintro e w1 ⟨⟨r, rfl, hr⟩, hb⟩
          have hb1 := hbel.trans (hb.mono hbel.size)
          clear hb HC
          rcases hr with hneg2 | ⟨hr0, hr1, hr2⟩
          · go_wp2_with fail
            go_ret
            exact ⟨⟨-1, rfl, .inl (by omega)⟩, hb1⟩
          · have hnn : ¬ r < 0 := by omega
            have HSZ : Hid (szCh f[k]) := hr2
            clear hr2
            go_wp2_with fail
            go_roundw
            case rel => exact ⟨k + 1, by omega, by go_num, r, rfl, by omega, by omega, take_allCh _ f k hlt HA.out HSZ.out, hb1⟩
            case measure => simp [intOf]; omega
      · have hlt2 : ¬ (k : Int) < (f.length : Int) := by omega
        go_wp2_with fail
        go_ret
        exact ⟨⟨c, rfl, .inr ⟨hc0, hc1, by omega, by have := HA.out; rw [List.take_of_length_le (by omega)] at this; exact this⟩⟩, hbel⟩
/-- The first k of a row of n chains, owned with all their versions, from block number base on; no two of these rows lie in one block. -/
structure PartCh (w : World) (base : Nat) (v : Value) (n : Nat) (f : List Chn) (k : Nat) (vs : Nat → Value) (xs : List Value) : Prop where
  row : w.ownsRow base 67 2 v n xs
  at_ : ∀ i (h : i < f.length), i < k → xs[i * 2]? = some (.int .i64 f[i].id) ∧ xs[i * 2 + 1]? = some (vs i)
  ents : ∀ i (h : i < f.length), i < k → OwnVr w base (vs i) f[i].vs
  apart : ∀ i j, i < f.length → j < f.length → i < k → j < k → i ≠ j → (vs i).ownBlock = none ∨ (vs i).ownBlock ≠ (vs j).ownBlock
  aside : ∀ i, i < f.length → i < k → (vs i).ownBlock = none ∨ (vs i).ownBlock ≠ v.ownBlock
theorem PartCh.next {w w' : World} {base : Nat} {v : Value} {n : Nat} {f : List Chn} {k : Nat} {vs : Nat → Value} {xs : List Value} (h : PartCh w base v n f k vs xs) (hb : Below w.heap.size w w') : PartCh w' base v n f k vs xs :=
  ⟨owns_below h.row hb, h.at_, fun i hi hk => owns_below (h.ents i hi hk) hb, h.apart, h.aside⟩
theorem PartCh.grown {w w' : World} {base : Nat} {v : Value} {n : Nat} {f : List Chn} {k : Nat} {vs : Nat → Value} {xs : List Value} {b : Nat} (h : PartCh w base v n f k vs xs) (hg : w.grownBy w' (some b)) (hb : b < base) : PartCh w' base v n f k vs xs := by
  have hne : ∀ {T : TypeId} {s : Nat} {u : Value} {m : Nat} {ys : List Value}, w.ownsRow base T s u m ys → u.ownBlock = none ∨ u.ownBlock ≠ some b := by
    intro T s u m ys ho
    cases hu : u.ownBlock with
    | none => exact .inl rfl
    | some q => exact .inr (fun e => by injection e with e; have := (ho.lt q hu).1; omega)
  exact ⟨h.row.kept hg (hne h.row), h.at_, fun i hi hk => World.ownsRow.kept (h.ents i hi hk) hg (hne (h.ents i hi hk)), h.apart, h.aside⟩
theorem PartCh.store {w : World} {base g cap n : Nat} {f : List Chn} {k : Nat} {vs : Nat → Value} {xs : List Value} {u : Value} (h : PartCh w base (.slice (some ⟨g, 0, none⟩) n cap) n f k vs xs) (hk : k < f.length) (hn : k < n)
    (hu : OwnVr w base u f[k].vs) (ha : u.ownBlock = none ∨ u.ownBlock ≠ some g) (hv : ∀ i, i < f.length → i < k → u.ownBlock = none ∨ u.ownBlock ≠ (vs i).ownBlock) :
    PartCh ((w.setCell ⟨g, k * 2, none⟩ (.int .i64 f[k].id)).setCell ⟨g, k * 2 + 1, none⟩ u) base (.slice (some ⟨g, 0, none⟩) n cap) n f (k + 1) (fun i => if i = k then u else vs i) ((xs.set (k * 2) (.int .i64 f[k].id)).set (k * 2 + 1) u) := by
  have hr := (World.ownsRow.stored (World.ownsRow.stored h.row (k * 2) (.int .i64 f[k].id)).1 (k * 2 + 1) u).1
  have hl : xs.length = n * 2 := h.row.1
  have kept : ∀ {x : Value} {m : Nat} {ys : List Value}, w.ownsRow base 69 5 x m ys → (x.ownBlock = none ∨ x.ownBlock ≠ some g) → ((w.setCell ⟨g, k * 2, none⟩ (.int .i64 f[k].id)).setCell ⟨g, k * 2 + 1, none⟩ u).ownsRow base 69 5 x m ys :=
    fun ho hne => (ho.kept grown_set hne).kept grown_set hne
  refine ⟨hr, ?_, ?_, ?_, ?_⟩
  · intro i hi hik
    by_cases e : i = k
    · subst e
      rw [if_pos rfl, List.getElem?_set_ne (by omega), List.getElem?_set_self (by omega), List.getElem?_set_self (by simp; omega)]
      exact ⟨rfl, rfl⟩
    · rw [if_neg e, List.getElem?_set_ne (by omega), List.getElem?_set_ne (by omega), List.getElem?_set_ne (by omega), List.getElem?_set_ne (by omega)]
      exact h.at_ i hi (by omega)
  · intro i hi hik
    by_cases e : i = k
    · subst e; simp only [if_pos]; exact kept hu ha
    · simp only [if_neg e]; exact kept (h.ents i hi (by omega)) (h.aside i hi (by omega))
  · intro i j hi hj hik hjk hne
    by_cases e : i = k
    · subst e
      have e2 : ¬ j = i := fun e => hne e.symm
      simp only [if_pos, if_neg e2]
      exact hv j hj (by omega)
    · by_cases e2 : j = k
      · subst e2
        simp only [if_pos, if_neg e]
        rcases hv i hi (by omega) with hx | hx
        · rw [hx]
          cases hvi : (vs i).ownBlock with
          | none => exact .inl rfl
          | some q => exact .inr (by simp)
        · exact .inr (fun e => hx e.symm)
      · simp only [if_neg e, if_neg e2]
        exact h.apart i j hi hj (by omega) (by omega) hne
  · intro i hi hik
    by_cases e : i = k
    · subst e; simp only [if_pos]; exact ha
    · simp only [if_neg e]; exact h.aside i hi (by omega)
/-- A tree's chains, owned. -/
def OwnCh (w : World) (base : Nat) (v : Value) (f : List Chn) : Prop := ∃ vs xs, PartCh w base v f.length f f.length vs xs
theorem OwnCh.next {w w' : World} {base : Nat} {v : Value} {f : List Chn} (h : OwnCh w base v f) (hb : Below w.heap.size w w') : OwnCh w' base v f := by
  obtain ⟨vs, xs, h⟩ := h
  exact ⟨vs, xs, h.next hb⟩
theorem OwnCh.grown {w w' : World} {base b : Nat} {v : Value} {f : List Chn} (h : OwnCh w base v f) (hg : w.grownBy w' (some b)) (hb : b < base) : OwnCh w' base v f := by
  obtain ⟨vs, xs, h⟩ := h
  exact ⟨vs, xs, h.grown hg hb⟩
theorem OwnCh.mono {w : World} {base base' : Nat} {v : Value} {f : List Chn} (h : OwnCh w base v f) (hb : base' ≤ base) : OwnCh w base' v f := by
  obtain ⟨vs, xs, h⟩ := h
  exact ⟨vs, xs, owns_mono h.row hb, h.at_, fun i hi hk => owns_mono (h.ents i hi hk) hb, h.apart, h.aside⟩
theorem OwnCh.rowCh {w : World} {base g cap n : Nat} {f : List Chn} (h : OwnCh w base (.slice (some ⟨g, 0, none⟩) n cap) f) : RowCh w (some ⟨g, 0, none⟩) f := by
  obtain ⟨vs, xs, h⟩ := h
  exact .inr ⟨g, rfl, (h.row.lt g rfl).2, fun i hi => by
    obtain ⟨a0, a1⟩ := h.at_ i hi hi
    obtain ⟨p, c, e1, e2⟩ := (h.ents i hi hi).inVr
    exact ⟨owns_cell h.row _ _ a0, p, c, by rw [← e1]; exact owns_cell h.row _ _ a1, e2⟩⟩
theorem OwnCh.form {w : World} {base : Nat} {v : Value} {f : List Chn} (h : OwnCh w base v f) : (v = .slice none 0 0 ∧ f = []) ∨ ∃ g cap, v = .slice (some ⟨g, 0, none⟩) f.length cap ∧ base ≤ g ∧ ReadCh w g f := by
  obtain ⟨vs, xs, h⟩ := h
  have hrow := h.row
  have hlt := World.ownsRow.lt h.row
  obtain ⟨h1, h2⟩ := hrow
  rcases h2 with ⟨h2, h3⟩ | ⟨g, cap, cur, hv, hg, hh, r⟩
  · exact .inl ⟨h2, List.length_eq_zero_iff.1 h3⟩
  · refine .inr ⟨g, cap, hv, hg, (hlt g (by rw [hv]; rfl)).2, fun i hi => ?_⟩
    obtain ⟨a0, a1⟩ := h.at_ i hi hi
    obtain ⟨p, c, e1, e2⟩ := (h.ents i hi hi).inVr
    have hrow := h.row
    rw [hv] at hrow
    exact ⟨owns_cell hrow _ _ a0, p, c, by rw [← e1]; exact owns_cell hrow _ _ a1, e2⟩

set_option maxRecDepth 4000 in
set_option maxHeartbeats 1000000 in
theorem toChain_any (num : Int) (a : Option Addr) (cap : Nat) (l : List Ver) (w : World) (hin : InVr w a l) (hlen : l.length ≤ 1048576) :
    Calls Tryz.prog 47 #[.agg #[.int .i64 num, .slice a l.length cap]] w fun e w' => (∃ g, e = .returned (.agg #[.int .i64 num, .slice (some ⟨g, 0, none⟩) l.length l.length]) ∧ OwnVr w' w.heap.size (.slice (some ⟨g, 0, none⟩) l.length l.length) l) ∧ Below w.heap.size w w' := by
  have hb0 : Below w.heap.size w (((w.alloc (.cells #[.int .i64 num, .slice a l.length cap] 77)).alloc (.cells #[.int .i64 0, .slice none 0 0] 67)).alloc (.cells #[.int .i64 num, .slice none 0 0] 67)) := (((Below.refl _ _).alloc (Nat.le_refl _) _).alloc (by simp) _).alloc (by simp; omega) _
  have HC : Hid (Calls _ _ _ _ _) := toVersionS_any a cap l _ (hin.step hb0) hlen
  clear hin
  go_enter Tryz.func47, Tryz.ntmps47
  go_wp2_with fail
  refine HC.out.mono ?_
  rintro e w1 ⟨⟨g, rfl, hR⟩, hb⟩
  obtain ⟨hc, hf⟩ := bcell hb
  have hz : w.heap.size + 2 < w1.heap.size := by have := hb.size; simp at this; omega
  have hbw : Below w.heap.size w w1 := hb0.trans (hb.mono (by simp; omega))
  have hg : w.heap.size + 3 ≤ g := by have := (World.ownsRow.lt hR g rfl).1; simp at this; omega
  have HR : Hid (OwnVr _ _ _ _) := hR
  clear hb HC hR hb0
  go_wp2_with fail
  refine bodyPost_ret (v := .agg #[.int .i64 num, .slice (some ⟨g, 0, none⟩) l.length l.length]) (by simp [results, Tryz.results47, go_sem, *]) rfl ⟨⟨g, rfl, ?_⟩, ?_⟩
  · have hne : ∀ m, m < w.heap.size + 3 → (Value.slice (some ⟨g, 0, none⟩) l.length l.length).ownBlock = none ∨ (Value.slice (some ⟨g, 0, none⟩) l.length l.length).ownBlock ≠ some m := fun m hm => .inr (fun e => by injection e with e; simp at e; omega)
    exact owns_mono (((World.ownsRow.kept HR.out grown_set (hne _ (by omega))).kept grown_set (hne _ (by omega))).kept grown_set (hne _ (by omega))) (by simp; omega)
  · (repeat (first | (with_reducible exact Below.refl _ _) | (with_reducible assumption) | (with_reducible apply below_drewN) | (with_reducible apply Below.drew) | ((with_reducible refine Below.setCell ?_ ?_ _); rotate_left; focus (first | (simp; done) | (simp; omega) | omega)) | ((with_reducible refine Below.alloc ?_ ?_ _); rotate_left; focus (first | (simp; done) | (simp; omega) | omega))))

set_option maxRecDepth 4000 in
set_option maxHeartbeats 1000000 in
theorem toChainS_any (a : Option Addr) (cap : Nat) (f : List Chn) (w : World) (hin : InCh w a f) (hlen : f.length ≤ 1048576) (hs : ∀ l ∈ f, l.vs.length ≤ 1048576) :
    Calls Tryz.prog 24 #[.slice a f.length cap] w fun e w' => (∃ g, e = .returned (.slice (some ⟨g, 0, none⟩) f.length f.length) ∧ OwnCh w' w.heap.size (.slice (some ⟨g, 0, none⟩) f.length f.length) f) ∧ Below w.heap.size w w' := by
  obtain ⟨i0, hi, hz0, hz1, hz2⟩ := info_parts infoCh
  have HI : Hid (InCh _ _ _) := hin
  have HS : Hid _ := hs
  clear hin hs
  go_enter Tryz.func24, Tryz.ntmps24
  go_wp2_with (refine wpList_make_full _ rfl (.tmp 6) (.tmp 6) 32 rfl w.heap.size 67 i0 (.agg #[.int .i64 0, .slice none 0 0]) 2 Tryz.underlying32 hi hz0 hz1 .i64 .i64 _ _ f.length rfl rfl rfl rfl (by rw [hz2]; omega) (by unfold maxLen; omega) (Nat.le_refl _) ?_; intro w1 hown1 hgrow1)
  have hb1 : Below w.heap.size w w1 := Below.grown (Below.refl _ _) hgrow1 (Nat.le_refl _) (fun k h => by cases h)
  clear hgrow1
  go_loopw [4] (fun i wr => ∃ (k : Nat) (vs : Nat → Value) (xs : List Value), k ≤ f.length ∧ i = .int .i64 k ∧ PartCh wr w.heap.size (.slice (some ⟨w.heap.size, 0, none⟩) f.length f.length) f.length f k vs xs ∧ Below w.heap.size w wr) (fun i _ => f.length - (intOf i).toNat)
  case atStart => exact ⟨0, fun _ => .slice none 0 0, _, Nat.zero_le _, rfl, ⟨hown1, fun i h hi => absurd hi (by omega), fun i h hi => absurd hi (by omega), fun i j h h2 hi => absurd hi (by omega), fun i h hi => absurd hi (by omega)⟩, hb1⟩
  case round =>
    obtain ⟨k, vs, xs, hk, rfl, hpart, hbel⟩ := hrel
    clear hown1 hb1
    by_cases hlt : k < f.length
    · rcases HI.out.step hbel with h0 | ⟨b, off, rfl, hbl, hc⟩
      · omega
      · have hlt2 : (k : Int) < (f.length : Int) := by omega
        obtain ⟨x0, p, pc, x1, hT⟩ := hc k hlt
        have HC : Hid (Calls _ _ _ _ _) := toChain_any f[k].id p pc f[k].vs wr hT (HS.out f[k] (List.getElem_mem _))
        have hz := hbel.size
        have HP : Hid (PartCh _ _ _ _ _ _ _ _) := hpart
        have HB : Hid _ := hbel
        have hgl : w.heap.size < wr.heap.size := (hpart.row.lt _ rfl).2
        clear hc hbel hT hpart
        go_wp2_with fail
        refine HC.out.mono ?_
        rintro e w2 ⟨⟨g2, rfl, hR2⟩, hb2⟩
        have hp2 := HP.out.next hb2
        obtain ⟨z0, y0⟩ := own_there hp2.row (k * 2) (by omega)
        obtain ⟨z1, y1⟩ := own_there hp2.row (k * 2 + 1) (by omega)
        have f0 := World.ownsRow.frozenAt hp2.row (k * 2)
        have f1 := World.ownsRow.frozenAt hp2.row (k * 2 + 1)
        have hg2 : wr.heap.size ≤ g2 := (World.ownsRow.lt hR2 g2 rfl).1
        have hst := hp2.store hlt hlt (owns_mono hR2 (by omega)) (.inr (fun e => by injection e with e; simp at e; omega)) (fun i hi hik => .inr (fun e => by
          have := (World.ownsRow.lt (HP.out.ents i hi hik) g2 e.symm).2
          omega))
        have HST : Hid (PartCh _ _ _ _ _ _ _ _) := hst
        have HB2 : Hid _ := HB.out.trans (hb2.mono HB.out.size)
        have hz2 := hb2.size
        clear hst hp2 hb2 hR2 HC
        go_wp2_with fail
        go_roundw
        case rel => exact ⟨k + 1, _, _, by omega, by go_num, HST.out, (HB2.out.setCell (Nat.le_refl _) _).setCell (Nat.le_refl _) _⟩
        case measure => simp [intOf]; omega
    · have hlt2 : ¬ (k : Int) < (f.length : Int) := by omega
      obtain rfl : k = f.length := by omega
      have HR : Hid (OwnCh _ _ _ _) := ⟨vs, xs, hpart⟩
      clear hpart
      go_wp2_with fail
      go_ret
      exact ⟨⟨w.heap.size, rfl, HR.out⟩, hbel⟩

set_option maxRecDepth 4000 in
set_option maxHeartbeats 1000000 in
theorem eqChain_same (num : Int) (p1 p2 : Option Addr) (c1 c2 : Nat) (l : List Ver) (w : World) (h1 : InVr w p1 l) (h2 : InVr w p2 l) (hl : l.length ≤ 1048576) :
    Calls Tryz.prog 63 #[.agg #[.int .i64 num, .slice p1 l.length c1], .agg #[.int .i64 num, .slice p2 l.length c2]] w fun e w' => e = .returned (.bool true) ∧ Below w.heap.size w w' := by
  have hb0 : Below w.heap.size w ((w.alloc (.cells #[.int .i64 num, .slice p1 l.length c1] 67)).alloc (.cells #[.int .i64 num, .slice p2 l.length c2] 67)) := ((Below.refl _ _).alloc (Nat.le_refl _) _).alloc (by simp) _
  have HC : Hid (Calls _ _ _ _ _) := eqVersionS_same p1 p2 c1 c2 l _ (h1.step hb0) (h2.step hb0) hl
  clear h1 h2
  go_enter Tryz.func63, Tryz.ntmps63
  go_wp2_with fail
  refine HC.out.mono ?_
  rintro e w1 ⟨rfl, hb⟩
  have hbw := hb0.trans (hb.mono hb0.size)
  clear hb HC
  go_wp2_with fail
  go_ret
  exact ⟨rfl, hbw⟩

set_option maxRecDepth 4000 in
set_option maxHeartbeats 1000000 in
theorem eqChainS_same (p1 p2 : Option Addr) (c1 c2 : Nat) (f : List Chn) (w : World) (h1 : RowCh w p1 f) (h2 : RowCh w p2 f) (hlen : f.length ≤ 1048576) (hs : ∀ l ∈ f, l.vs.length ≤ 1048576) :
    Calls Tryz.prog 32 #[.slice p1 f.length c1, .slice p2 f.length c2] w fun e w' => e = .returned (.bool true) ∧ Below w.heap.size w w' := by
  have H1 : Hid (RowCh _ _ _) := h1
  have H2 : Hid (RowCh _ _ _) := h2
  have HS : Hid _ := hs
  clear h1 h2 hs
  go_enter Tryz.func32, Tryz.ntmps32
  go_wp2_with fail
  go_loopw [5] (fun i wr => ∃ k : Nat, k ≤ f.length ∧ i = .int .i64 k ∧ Below w.heap.size w wr) (fun i _ => f.length - (intOf i).toNat)
  case atStart => exact ⟨0, Nat.zero_le _, rfl, Below.refl _ _⟩
  case round =>
    obtain ⟨k, hk, rfl, hbel⟩ := hrel
    by_cases hlt : k < f.length
    · rcases H1.out.next hbel with h0 | ⟨g1, rfl, R1⟩
      · subst h0; simp at hlt
      rcases H2.out.next hbel with h0 | ⟨g2, rfl, R2⟩
      · subst h0; simp at hlt
      obtain ⟨w1, pa, ca, x1, t1⟩ := R1.cells k hlt
      obtain ⟨w2, pb, cb, x2, t2⟩ := R2.cells k hlt
      have l1 := R1.lt
      have l2 := R2.lt
      have hk1 : (k : Int) < (f.length : Int) := by omega
      have q0 : ∀ u : Under wr, u.x.cell? ⟨g1, k * 2, none⟩ = some (.int .i64 f[k].id) := fun u => (u.h.cell l1).trans w1
      have r0 : ∀ u : Under wr, u.x.cell? ⟨g2, k * 2, none⟩ = some (.int .i64 f[k].id) := fun u => (u.h.cell l2).trans w2
      have q1 : ∀ u : Under wr, u.x.cell? ⟨g1, k * 2 + 1, none⟩ = some (.slice pa f[k].vs.length ca) := fun u => (u.h.cell l1).trans x1
      have r1 : ∀ u : Under wr, u.x.cell? ⟨g2, k * 2 + 1, none⟩ = some (.slice pb f[k].vs.length cb) := fun u => (u.h.cell l2).trans x2
      have HC : Hid (∀ u : Under wr, Calls _ _ _ u.x _) := fun u => eqChain_same f[k].id pa pb ca cb f[k].vs u.x (t1.step u.h) (t2.step u.h) (HS.out f[k] (List.getElem_mem _))
      have hnu : Nonempty (Under wr) := ⟨⟨wr, Below.refl _ _⟩⟩
      clear x1 x2 w1 w2 R1 R2 t1 t2
      go_wp2_with fail
      refine wp_region_under (by kernel_rfl) (by kernel_rfl) ?_
      repeat (go_big_quiet_step ((go_at_call 63; exact calls_under _ (HC.out _))))
      refine wpQuiet_nil ?_
      rintro _ ⟨u, rfl⟩
      go_wp2_with fail
      go_roundw
      case rel => exact ⟨k + 1, by omega, by go_num, hbel.trans (u.h.mono hbel.size)⟩
      case measure => simp [intOf]; omega
    · have hlt2 : ¬ (k : Int) < (f.length : Int) := by omega
      go_wp2_with fail
      go_ret
      exact ⟨rfl, hbel⟩


end Go.Proofs.YtncpijfbbgipaaaGreatDoor.Co
