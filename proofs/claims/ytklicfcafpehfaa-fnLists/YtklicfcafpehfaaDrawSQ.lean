/- What the specification's row of drawn values is: right ones, of the call's own; all that lay there is as it was. -/
import Derived.Test.YtklicfcafpehfaaDrawWQ
import Derived.Test.YtklicfcafpehfaaLawB
import Derived.ProofKit
namespace Go.Proofs.Ytklicfcafpehfaa
open Go.RowKit
set_option linter.unusedVariables false

/-- Bytes that came in, and each of them is one. -/
structure InC (w : World) (x : Option Addr) (zs : List Int) : Prop where
  inb : InB w x zs
  bytes : ∀ i, i < zs.length → 0 ≤ zs.getD i 0 ∧ zs.getD i 0 < 256
  len : zs.length ≤ 1048576
theorem InC.step {w w' : World} {x : Option Addr} {zs : List Int} (h : InC w x zs) (hb : Below w.heap.size w w') : InC w' x zs := ⟨h.inb.step hb, h.bytes, h.len⟩
theorem InC.code {w W : World} {x : Option Addr} {zs : List Int} (h : InC w x zs) (hb : Below w.heap.size w W) : CodeAt W w.heap.size x zs := by
  refine ⟨?_, h.bytes, h.len⟩
  rcases h.inb with h0 | ⟨b, off, hx, hlt, hc⟩
  · exact .inl h0
  · exact .inr ⟨b, off, hx, by omega, Nat.lt_of_lt_of_le hlt hb.size, fun i hi => (hb.cell (p := ⟨b, off + i, none⟩) hlt).trans (hc i hi)⟩
theorem SrcAt.next {W W' : World} {g : Nat} {x : Option Addr} {cap : Nat} {zs : List Int} {a : Nat} (h : SrcAt W g x cap zs a) (hb : W'.heap[g]? = W.heap[g]?) (hc : CodeAt W' g x zs) : SrcAt W' g x cap zs a := by
  obtain ⟨k, s, h1, h2, h3⟩ := h.block
  exact ⟨⟨k, s, h1, h2, hb.trans h3⟩, hc⟩

set_option maxRecDepth 4000 in
set_option maxHeartbeats 1000000 in
theorem l00Source_any (x : Option Addr) (cap : Nat) (zs : List Int) (w : World) (h : InC w x zs) :
    Calls Try.prog 69 #[.slice x zs.length cap] w fun e w' => e = .returned (.pointer (some ⟨w.heap.size, 0, none⟩)) ∧ SrcAt w' w.heap.size x cap zs 0 ∧ Below w.heap.size w w' := by
  have hl := h.len
  have HC : Hid (InC _ _ _) := h
  clear h
  go_enter Try.func69, Try.ntmps69
  go_wp2_with fail
  go_ret
  have hb : Below w.heap.size w (w.alloc (.cells #[.slice x zs.length cap, .int .i64 0, .int .i64 ((zs.length : Int) % 1000)] 154)) := (Below.refl _ _).alloc (Nat.le_refl _) _
  exact ⟨rfl, SrcAt.done 0 ((zs.length : Int) % 1000) (by omega) (by omega) (by omega) (by omega) (heap_alloc_new w _) (HC.out.code hb), hb⟩

theorem cost_two : costV 2 = 430 := rfl
set_option maxRecDepth 4000 in
set_option maxHeartbeats 2000000 in
theorem valuesOf_any (x : Option Addr) (cap : Nat) (zs : List Int) (n : Nat) (w : World) (h : InC w x zs) (hn : n ≤ 100) :
    Calls Try.prog 15 #[.slice x zs.length cap, .int .i64 n] w fun e w' => (∃ (g c : Nat) (l : List Val), e = .returned (.slice (some ⟨g, 0, none⟩) n c) ∧ l.length = n ∧ (∀ v ∈ l, okB v = true) ∧ w'.ownsRow w.heap.size 27 3 (.slice (some ⟨g, 0, none⟩) n c) n (flat l)) ∧ Below w.heap.size w w' := by
  obtain ⟨i0, hi0, hz0, hz1, hz2⟩ := info_parts infoV
  have HC : Hid (InC _ _ _) := h
  have HS : Hid (Calls _ _ _ _ _) := l00Source_any x cap zs w h
  clear h
  go_enter Try.func15, Try.ntmps15
  go_wp2_with fail
  refine HS.out.mono ?_
  rintro e w1 ⟨rfl, s1, b1⟩
  have hlt1 := s1.lt
  have hb2 : Below w1.heap.size w1 (w1.alloc (.cells #[] 27)) := (Below.refl _ _).alloc (Nat.le_refl _) _
  have HS2 : Hid (SrcAt _ _ _ _ _ _) := s1.next (hb2.block _ hlt1) (HC.out.code (b1.trans (hb2.mono b1.size)))
  have HB2 : Hid (Below _ _ _) := b1.trans (hb2.mono b1.size)
  have O2 := World.ownsRow_made (base := w.heap.size + 1) (size := 3) (e := 27) w1 #[] 0 (by omega) (by unfold maxLen; omega) rfl
  have HO2 : Hid (World.ownsRow _ _ _ _ _ _ _) := O2
  clear s1 b1 hb2 O2 HS
  go_wp2_with fail
  go_loopw [6, 7] (fun u i wr => ∃ (k : Nat) (l : List Val), k ≤ n ∧ i = .int .i64 k ∧ l.length = k ∧ (∀ v ∈ l, okB v = true) ∧ wr.ownsRow (w.heap.size + 1) 27 3 u l.length (flat l) ∧ (¬ u = .slice none 0 0) ∧ SrcAt wr w.heap.size x cap zs (k * 430) ∧ Below w.heap.size w wr) (fun _ i _ => n - (intOf i).toNat)
  case atStart => exact ⟨0, [], by omega, rfl, rfl, by simp, HO2.out, by simp, by simpa using HS2.out, HB2.out⟩
  case round =>
    obtain ⟨k, l, hk, rfl, hlk, hall, hown, hnn, hsrc, hbel⟩ := hrel
    have HN : Hid _ := hnn
    have HA : Hid _ := hall
    have HSR : Hid (SrcAt _ _ _ _ _ _) := hsrc
    have HO : Hid (World.ownsRow _ _ _ _ _ _ _) := hown
    have HLK : Hid (_ = _) := hlk
    have hz := hbel.size
    have hlt := hsrc.lt
    clear hnn hall hsrc hown HS2 HB2 HO2 hlk
    by_cases hkn : k < n
    · go_wp2_with fail
      refine (val_at 2 w.heap.size x cap zs (k * 430) _ HSR.out (by rw [cost_two]; omega)).mono ?_
      rintro e w5 ⟨⟨v, rfl, hv⟩, d5⟩
      rw [cost_two] at d5
      have O5 := HO.out.kept d5.1 (own_ne HO.out (by omega))
      have B5 : Below w.heap.size w w5 := Below.grown hbel d5.1 hz (fun j hj => by injection hj with hj; omega)
      have hz5 := B5.size
      have hlt5 := d5.2.lt
      have HS5 : Hid (SrcAt _ _ _ _ _ _) := d5.2
      have HV : Hid _ := hv
      have hll := HLK.out
      clear d5 hv
      go_wp2_with (at_builtin; refine wpList_append_own _ rfl (.tmp 16) (.tmp 19) 23 rfl (w.heap.size + 1) 27 i0 (.agg #[.int .i64 0, .int .i64 0, .string em]) 3 32 Try.underlying23 hi0 hz0 hz1 hz2 rfl (by decide) _ _ _ rfl (O5.alloc _) ⟨w5.heap.size, 0, none⟩ 1 1 (row v) rfl rfl ?c1 ?c2 ?c3 ?c4 ?c5 ?_)
      case c1 =>
        intro j u hj
        match j, hj with
        | 0, hj => simp [row] at hj; subst hj; simp [Addr.add, go_sem]
        | 1, hj => simp [row] at hj; subst hj; simp [Addr.add, go_sem]
        | 2, hj => simp [row] at hj; subst hj; simp [Addr.add, go_sem]
        | j + 3, hj => simp [row] at hj
      case c2 => intro u hu; simp [row] at hu; rcases hu with rfl | rfl | rfl <;> rfl
      case c3 => unfold maxLen; omega
      case c4 => omega
      case c5 => simp; omega
      intro v' w6 hown6 hgrow hnv
      have B6 : Below w.heap.size w w6 := Below.grown (B5.alloc (by omega) _) hgrow (by simp; omega) (fun j hj => by have := (O5.lt j hj).1; omega)
      have HS6 : Hid (SrcAt _ _ _ _ _ _) := HS5.out.next ((hgrow.block w.heap.size (by simp; omega) (fun e => by have := (O5.lt _ e.symm).1; omega)).trans (Below.heap_alloc w5 _ _ (by omega))) (HC.out.code B6)
      have HO6 : Hid (World.ownsRow _ _ _ _ _ _ _) := hown6
      have HN6 : Hid _ := hnv
      clear hown6 hgrow hnv O5 hll
      go_wp2_with fail
      go_roundw
      case rel =>
        exact ⟨k + 1, l ++ [v], by omega, by go_num, by rw [List.length_append, HLK.out]; rfl, fun u hu => by rcases List.mem_append.mp hu with h | h; exact HA.out u h; (simp at h; subst h; exact HV.out), by rw [flat_snoc, List.length_append, HLK.out]; exact HO6.out, HN6.out, by rw [Nat.add_mul]; exact HS6.out, B6⟩
      case measure => simp [intOf]; omega
    · obtain rfl : k = n := by omega
      obtain ⟨g3, cap3, hv⟩ := owns_shape HO.out HN.out
      subst hv
      have hown := HO.out
      rw [HLK.out] at hown
      have HOW : Hid (World.ownsRow _ _ _ _ _ _ _) := hown
      have hll := HLK.out
      clear hown HN
      go_wp2_with fail
      go_ret
      refine ⟨⟨g3, cap3, l, by simp [hll], HLK.out, HA.out, ?_⟩, hbel⟩
      obtain ⟨q1, q2⟩ := HOW.out
      refine ⟨q1, ?_⟩
      rcases q2 with ⟨e, _⟩ | ⟨g', c', cur, e, hb', r⟩
      · cases e
      · exact .inr ⟨g', c', cur, e, by omega, r⟩

end Go.Proofs.Ytklicfcafpehfaa

/- What the laws' taking of a byte out of a code answers. -/
namespace Go.Proofs.Ytklicfcafpehfaa
open Go.RowKit
set_option linter.unusedVariables false

set_option maxRecDepth 8000 in
set_option maxHeartbeats 2000000 in
theorem at_any (x : Option Addr) (cap : Nat) (zs : List Int) (n : Nat) (w : World) (h : InC w x zs) (h1 : 1 ≤ n) (hn : n ≤ 1048576) :
    Calls Try.prog 16 #[.slice x zs.length cap, .int .i64 0, .int .i64 n] w fun e w' => (∃ r : Nat, e = .returned (.int .i64 r) ∧ r < n) ∧ Below w.heap.size w w' := by
  by_cases hn1 : n ≤ 1
  · obtain rfl : n = 1 := by omega
    clear h
    go_enter Try.func16, Try.ntmps16
    go_wp2_with fail
    go_ret
    exact ⟨⟨0, rfl, by omega⟩, Below.refl _ _⟩
  have hn2 : ¬ ((n : Int) ≤ 1) := by omega
  have hnz : ((n : Int) == 0) = false := beq_eq_false_iff_ne.mpr (by omega)
  rcases h.inb with h0 | ⟨b, off, rfl, hlt, hc⟩
  · obtain rfl := List.eq_nil_of_length_eq_zero h0
    clear h
    go_enter Try.func16, Try.ntmps16
    go_wp2_with fail
    go_ret
    exact ⟨⟨0, by simp, by omega⟩, Below.refl _ _⟩
  by_cases hz : zs.length = 0
  · obtain rfl := List.eq_nil_of_length_eq_zero hz
    clear h hc
    go_enter Try.func16, Try.ntmps16
    go_wp2_with fail
    go_ret
    exact ⟨⟨0, by simp, by omega⟩, Below.refl _ _⟩
  have hlz : ((zs.length : Int) == 0) = false := beq_eq_false_iff_ne.mpr (by omega)
  have hl := h.len
  obtain ⟨y0, hy0⟩ : ∃ y0, y0 = zs.getD 0 0 := ⟨_, rfl⟩
  have c0 := hc 0 (by omega)
  have hb0 := h.bytes 0 (by omega)
  rw [Nat.add_zero, ← hy0] at c0
  rw [← hy0] at hb0
  obtain ⟨j, hj⟩ : ∃ j, j = 1 % zs.length := ⟨_, rfl⟩
  have hjl : j < zs.length := by rw [hj]; exact Nat.mod_lt _ (by omega)
  obtain ⟨y1, hy1⟩ : ∃ y1, y1 = zs.getD j 0 := ⟨_, rfl⟩
  have c1 := hc j hjl
  have hb1 := h.bytes j hjl
  rw [← hy1] at c1 hb1
  have hm : Int.tmod 1 (zs.length : Int) = (j : Int) := by rw [hj]; rfl
  have hd0 : Int.tdiv 0 (zs.length : Int) = 0 := Int.zero_tdiv _
  have hm0 : Int.tmod 0 (zs.length : Int) = 0 := Int.zero_tmod _
  have hpos : (0 : Int) < (zs.length : Int) := by omega
  have hjl2 : (j : Int) < (zs.length : Int) := by omega
  have hres : ∃ r : Nat, r < n ∧ Int.tmod (y0 * 31 + y1) (n : Int) = (r : Int) := by
    refine ⟨(y0 * 31 + y1).toNat % n, Nat.mod_lt _ (by omega), ?_⟩
    have e : y0 * 31 + y1 = (((y0 * 31 + y1).toNat : Nat) : Int) := by omega
    rw [e]; rfl
  obtain ⟨r, hrn, hr⟩ := hres
  have HRN : Hid _ := hrn
  clear h hc hy0 hy1 hj hrn
  go_enter Try.func16, Try.ntmps16
  go_wp2_with fail
  go_quiet (fail)
  go_wp2_with fail
  go_ret
  exact ⟨⟨r, by simp [*], HRN.out⟩, by (repeat (first | (with_reducible exact Below.refl _ _) | (with_reducible assumption) | (with_reducible apply below_drewN) | (with_reducible apply Below.drew) | ((with_reducible refine Below.setCell ?_ ?_ _); rotate_left; focus (first | (simp; done) | (simp; omega) | omega)) | ((with_reducible refine Below.alloc ?_ ?_ _); rotate_left; focus (first | (simp; done) | (simp; omega) | omega))))⟩


end Go.Proofs.Ytklicfcafpehfaa

/- Bytes that come in as a law's code: where they lie, and each is one. -/
namespace Go.Proofs.Ytklicfcafpehfaa
open Go.RowKit
set_option linter.unusedVariables false

theorem wf_byte {n : Int} (h : (Lit.int .u8 n).wf = true) : 0 ≤ n ∧ n < 256 := by
  unfold Lit.wf at h
  rw [Bool.and_eq_true, decide_eq_true_eq, decide_eq_true_eq] at h
  have h1 : IntKind.u8.min = 0 := by decide
  have h2 : IntKind.u8.max = 255 := by decide
  rw [h1, h2] at h
  omega
theorem inc_of {w : World} {x : Addr} {l c : Nat} {zs : List Int} (hl : l ≤ c) (hm : c ≤ maxLen) (hz : zs.length = c) (hcell : ∀ i, i < zs.length → w.cell? (x.add i) = some (.int .u8 (zs.getD i 0))) (hwf : ∀ n ∈ zs, (Lit.int .u8 n).wf = true) :
    ∃ ys : List Int, ys.length = l ∧ ys.length ≤ maxLen ∧ (∀ i, i < ys.length → 0 ≤ ys.getD i 0 ∧ ys.getD i 0 < 256) ∧ InB w (some x) ys := by
  have hlen : (zs.take l).length = l := by simp; omega
  refine ⟨zs.take l, hlen, by omega, ?_, ?_⟩
  · intro i hi
    rw [gd (zs.take l) i hi, List.getElem_take]
    exact wf_byte (hwf _ (List.getElem_mem _))
  by_cases h0 : l = 0
  · exact .inl (by simp [h0])
  · obtain ⟨b, off, spot⟩ := x
    have hc0 := hcell 0 (by omega)
    have hspot : spot = none := by simpa [Addr.add] using World.cell?_spot hc0
    subst hspot
    have hlt : b < w.heap.size := by
      rcases Nat.lt_or_ge b w.heap.size with h | h
      · exact h
      · simp [World.cell?, Addr.add, Array.getElem?_eq_none h] at hc0
    refine .inr ⟨b, off, rfl, hlt, fun i hi => ?_⟩
    have hi2 : i < l := by omega
    have := hcell i (by omega)
    rw [gd (zs.take l) i hi, List.getElem_take, ← gd zs i (by omega), ← this]
    by_cases hi0 : i = 0
    · subst hi0; simp [Addr.add]
    · simp [Addr.add, hi0]

end Go.Proofs.Ytklicfcafpehfaa
