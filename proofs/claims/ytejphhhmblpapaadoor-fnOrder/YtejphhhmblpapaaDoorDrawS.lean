/- What the specification's row of drawn values is: right ones, of the call's own; all that lay there is as it was. -/
import Derived.Test.YtejphhhmblpapaaDoorDrawE
namespace Go.Proofs.YtejphhhmblpapaaDoor
open Go.RowKit
set_option linter.unusedVariables false

/-- Bytes that came in, and each of them is one. -/
structure InC (w : World) (x : Option Addr) (zs : List Int) : Prop where
  inb : InB w x zs
  bytes : ∀ i, i < zs.length → 0 ≤ zs.getD i 0 ∧ zs.getD i 0 < 256
  len : zs.length ≤ 1048576
theorem InC.step {w w' : World} {x : Option Addr} {zs : List Int} (h : InC w x zs) (hb : Below w.heap.size w w') : InC w' x zs := ⟨h.inb.step hb, h.bytes, h.len⟩
theorem InC.code {w W : World} {x : Option Addr} {zs : List Int} (h : InC w x zs) (hb : Below w.heap.size w W) : CodeAt W w.heap.size x zs := by
  refine ⟨?_, h.bytes, h.len⟩
  rcases h.inb with h0 | ⟨b, off, hx, hlt, hc⟩
  · exact .inl h0
  · exact .inr ⟨b, off, hx, by omega, Nat.lt_of_lt_of_le hlt hb.size, fun i hi => (hb.cell (p := ⟨b, off + i, none⟩) hlt).trans (hc i hi)⟩
theorem SrcAt.next {W W' : World} {g : Nat} {x : Option Addr} {cap : Nat} {zs : List Int} {a : Nat} (h : SrcAt W g x cap zs a) (hb : W'.heap[g]? = W.heap[g]?) (hc : CodeAt W' g x zs) : SrcAt W' g x cap zs a := by
  obtain ⟨k, s, h1, h2, h3⟩ := h.block
  exact ⟨⟨k, s, h1, h2, hb.trans h3⟩, hc⟩

set_option maxRecDepth 4000 in
set_option maxHeartbeats 1000000 in
theorem l00Source_any (x : Option Addr) (cap : Nat) (zs : List Int) (w : World) (h : InC w x zs) :
    Calls Tryd.prog 20 #[.slice x zs.length cap] w fun e w' => e = .returned (.pointer (some ⟨w.heap.size, 0, none⟩)) ∧ SrcAt w' w.heap.size x cap zs 0 ∧ Below w.heap.size w w' := by
  have hl := h.len
  have HC : Hid (InC _ _ _) := h
  clear h
  go_enter Tryd.func20, Tryd.ntmps20
  go_wp2_with fail
  go_ret
  have hb : Below w.heap.size w (w.alloc (.cells #[.slice x zs.length cap, .int .i64 0, .int .i64 ((zs.length : Int) % 1000)] 69)) := (Below.refl _ _).alloc (Nat.le_refl _) _
  exact ⟨rfl, SrcAt.done 0 ((zs.length : Int) % 1000) (by omega) (by omega) (by omega) (by omega) (heap_alloc_new w _) (HC.out.code hb), hb⟩

theorem cost_two : costV 2 = 430 := rfl
set_option maxRecDepth 4000 in
set_option maxHeartbeats 2000000 in
theorem valuesOf_any (x : Option Addr) (cap : Nat) (zs : List Int) (n : Nat) (w : World) (h : InC w x zs) (hn : n ≤ 100) :
    Calls Tryd.prog 6 #[.slice x zs.length cap, .int .i64 n] w fun e w' => (∃ (g c : Nat) (l : List Val), e = .returned (.slice (some ⟨g, 0, none⟩) n c) ∧ l.length = n ∧ (∀ v ∈ l, okB v = true) ∧ w'.ownsRow w.heap.size 26 3 (.slice (some ⟨g, 0, none⟩) n c) n (flat l)) ∧ Below w.heap.size w w' := by
  obtain ⟨i0, hi0, hz0, hz1, hz2⟩ := info_parts infoV
  have HC : Hid (InC _ _ _) := h
  have HS : Hid (Calls _ _ _ _ _) := l00Source_any x cap zs w h
  clear h
  go_enter Tryd.func6, Tryd.ntmps6
  go_wp2_with fail
  refine HS.out.mono ?_
  rintro e w1 ⟨rfl, s1, b1⟩
  have hlt1 := s1.lt
  have hb2 : Below w1.heap.size w1 (w1.alloc (.cells #[] 26)) := (Below.refl _ _).alloc (Nat.le_refl _) _
  have HS2 : Hid (SrcAt _ _ _ _ _ _) := s1.next (hb2.block _ hlt1) (HC.out.code (b1.trans (hb2.mono b1.size)))
  have HB2 : Hid (Below _ _ _) := b1.trans (hb2.mono b1.size)
  have O2 := World.ownsRow_made (base := w.heap.size + 1) (size := 3) (e := 26) w1 #[] 0 (by omega) (by unfold maxLen; omega) rfl
  have HO2 : Hid (World.ownsRow _ _ _ _ _ _ _) := O2
  clear s1 b1 hb2 O2 HS
  go_wp2_with fail
  go_loopw [6, 7] (fun u i wr => ∃ (k : Nat) (l : List Val), k ≤ n ∧ i = .int .i64 k ∧ l.length = k ∧ (∀ v ∈ l, okB v = true) ∧ wr.ownsRow (w.heap.size + 1) 26 3 u l.length (flat l) ∧ (¬ u = .slice none 0 0) ∧ SrcAt wr w.heap.size x cap zs (k * 430) ∧ Below w.heap.size w wr) (fun _ i _ => n - (intOf i).toNat)
  case atStart => exact ⟨0, [], by omega, rfl, rfl, by simp, HO2.out, by simp, by simpa using HS2.out, HB2.out⟩
  case round =>
    obtain ⟨k, l, hk, rfl, hlk, hall, hown, hnn, hsrc, hbel⟩ := hrel
    have HN : Hid _ := hnn
    have HA : Hid _ := hall
    have HSR : Hid (SrcAt _ _ _ _ _ _) := hsrc
    have HO : Hid (World.ownsRow _ _ _ _ _ _ _) := hown
    have HLK : Hid (_ = _) := hlk
    have hz := hbel.size
    have hlt := hsrc.lt
    clear hnn hall hsrc hown HS2 HB2 HO2 hlk
    by_cases hkn : k < n
    · go_wp2_with fail
      refine (val_at 2 w.heap.size x cap zs (k * 430) _ HSR.out (by rw [cost_two]; omega)).mono ?_
      rintro e w5 ⟨⟨v, rfl, hv⟩, d5⟩
      rw [cost_two] at d5
      have O5 := HO.out.kept d5.1 (own_ne HO.out (by omega))
      have B5 : Below w.heap.size w w5 := Below.grown hbel d5.1 hz (fun j hj => by injection hj with hj; omega)
      have hz5 := B5.size
      have hlt5 := d5.2.lt
      have HS5 : Hid (SrcAt _ _ _ _ _ _) := d5.2
      have HV : Hid _ := hv
      have hll := HLK.out
      clear d5 hv
      go_wp2_with (at_builtin; refine wpList_append_own _ rfl (.tmp 16) (.tmp 19) 23 rfl (w.heap.size + 1) 26 i0 (.agg #[.int .i64 0, .int .i64 0, .string em]) 3 32 Tryd.underlying23 hi0 hz0 hz1 hz2 rfl (by decide) _ _ _ rfl (O5.alloc _) ⟨w5.heap.size, 0, none⟩ 1 1 (row v) rfl rfl ?c1 ?c2 ?c3 ?c4 ?c5 ?_)
      case c1 =>
        intro j u hj
        match j, hj with
        | 0, hj => simp [row] at hj; subst hj; simp [Addr.add, go_sem]
        | 1, hj => simp [row] at hj; subst hj; simp [Addr.add, go_sem]
        | 2, hj => simp [row] at hj; subst hj; simp [Addr.add, go_sem]
        | j + 3, hj => simp [row] at hj
      case c2 => intro u hu; simp [row] at hu; rcases hu with rfl | rfl | rfl <;> rfl
      case c3 => unfold maxLen; omega
      case c4 => omega
      case c5 => simp; omega
      intro v' w6 hown6 hgrow hnv
      have B6 : Below w.heap.size w w6 := Below.grown (B5.alloc (by omega) _) hgrow (by simp; omega) (fun j hj => by have := (O5.lt j hj).1; omega)
      have HS6 : Hid (SrcAt _ _ _ _ _ _) := HS5.out.next ((hgrow.block w.heap.size (by simp; omega) (fun e => by have := (O5.lt _ e.symm).1; omega)).trans (Below.heap_alloc w5 _ _ (by omega))) (HC.out.code B6)
      have HO6 : Hid (World.ownsRow _ _ _ _ _ _ _) := hown6
      have HN6 : Hid _ := hnv
      clear hown6 hgrow hnv O5 hll
      go_wp2_with fail
      go_roundw
      case rel =>
        exact ⟨k + 1, l ++ [v], by omega, by go_num, by rw [List.length_append, HLK.out]; rfl, fun u hu => by rcases List.mem_append.mp hu with h | h; exact HA.out u h; (simp at h; subst h; exact HV.out), by rw [flat_snoc, List.length_append, HLK.out]; exact HO6.out, HN6.out, by rw [Nat.add_mul]; exact HS6.out, B6⟩
      case measure => simp [intOf]; omega
    · obtain rfl : k = n := by omega
      obtain ⟨g3, cap3, hv⟩ := owns_shape HO.out HN.out
      subst hv
      have hown := HO.out
      rw [HLK.out] at hown
      have HOW : Hid (World.ownsRow _ _ _ _ _ _ _) := hown
      have hll := HLK.out
      clear hown HN
      go_wp2_with fail
      go_ret
      refine ⟨⟨g3, cap3, l, by simp [hll], HLK.out, HA.out, ?_⟩, hbel⟩
      obtain ⟨q1, q2⟩ := HOW.out
      refine ⟨q1, ?_⟩
      rcases q2 with ⟨e, _⟩ | ⟨g', c', cur, e, hb', r⟩
      · cases e
      · exact .inr ⟨g', c', cur, e, by omega, r⟩

end Go.Proofs.YtejphhhmblpapaaDoor
