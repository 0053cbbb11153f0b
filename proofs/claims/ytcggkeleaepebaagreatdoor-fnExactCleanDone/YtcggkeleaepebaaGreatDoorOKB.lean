/- What the specification's test of a value answers for lists. -/
import Derived.Test.YtcggkeleaepebaaGreatDoorOKA
namespace Go.Proofs.YtcggkeleaepebaaGreatDoor
open Go.RowKit
set_option linter.unusedVariables false

theorem items_len : ∀ (m : Nat) (t : ByteArray) (l : List Val), t.size ≤ m → items t = some l → l.length ≤ t.size ∧ ∀ v ∈ l, v.t.size ≤ t.size
  | m, t, l, hm, h => by
    by_cases hz : t.size = 0
    · rw [items_nil hz] at h; injection h with h; subst h; simp
    · cases hc : cutV t with
      | none => rw [items_none hz hc] at h; cases h
      | some p =>
        obtain ⟨v, r⟩ := p
        have hs := cutV_size hc
        rw [items_cons hc] at h
        cases hi : items r with
        | none => rw [hi] at h; cases h
        | some l' =>
          rw [hi] at h; injection h with h; subst h
          match m, hm with
          | 0, hm => omega
          | m + 1, hm =>
            have ih := items_len m r l' (by omega) hi
            refine ⟨by simp; omega, ?_⟩
            intro u hu
            rcases List.mem_cons.mp hu with rfl | hu
            · omega
            · have := ih.2 u hu; omega
theorem fields_len : ∀ (m : Nat) (t : ByteArray) (l : List Fld), t.size ≤ m → fields t = some l → l.length ≤ t.size ∧ ∀ f ∈ l, f.name.size ≤ t.size ∧ f.v.t.size ≤ t.size
  | m, t, l, hm, h => by
    by_cases hz : t.size = 0
    · rw [fields_nil hz] at h; injection h with h; subst h; simp
    · cases hc : cutF t with
      | none => rw [fields_none hz hc] at h; cases h
      | some p =>
        obtain ⟨v, r⟩ := p
        have hs := cutF_size hc
        rw [fields_cons hc] at h
        cases hi : fields r with
        | none => rw [hi] at h; cases h
        | some l' =>
          rw [hi] at h; injection h with h; subst h
          match m, hm with
          | 0, hm => omega
          | m + 1, hm =>
            have ih := fields_len m r l' (by omega) hi
            refine ⟨by simp; omega, ?_⟩
            intro u hu
            rcases List.mem_cons.mp hu with rfl | hu
            · omega
            · have := ih.2 u hu; omega
theorem all_take_succ {α : Type} (p : α → Bool) (l : List α) (k : Nat) (h : k < l.length) (ht : (l.take k).all p = true) : (l.take (k + 1)).all p = p l[k] := by
  rw [List.take_succ_eq_append_getElem h, List.all_append, ht]; simp
theorem all_false {α : Type} (p : α → Bool) (l : List α) (k : Nat) (h : k < l.length) (hf : p l[k] = false) : l.all p = false := by
  rw [List.all_eq_false]; exact ⟨l[k], List.getElem_mem _, by simp [hf]⟩

set_option maxRecDepth 4000 in
set_option maxHeartbeats 4000000 in
theorem l01OK_list (d : Nat) (ih : OKAt d) (hd : d ≤ 4) (n : Int) (t : ByteArray) (w : World) (hs : t.size ≤ 1048576) :
    Calls Tryz.prog 147 #[.agg #[.int .i64 4, .int .i64 n, .string t], .int .i64 ((d : Int) + 1)] w fun e w' => e = .returned (.bool (decide (n = 0 ∧ t.size ≤ 300) && itemsAll (fits d) (items t))) ∧ Below w.heap.size w w' := by
  have e5 : ((d : Int) + 1 == 0) = false := beq_eq_false_iff_ne.mpr (by omega)
  rcases Decidable.em (n = 0) with rfl | hn
  · by_cases hbig : 300 < t.size
    · have ed : decide ((0 : Int) = 0 ∧ t.size ≤ 300) = false := decide_eq_false (by omega)
      rw [ed, Bool.false_and]; clear ed
      cases hit : (items t).isSome
      all_goals
        have HI : Hid _ := hit
        clear hit
        go_enter Tryz.func147, Tryz.ntmps147
        go_wp2_with (go_at_call 163; refine (l01Items_any t _ hs).mono ?_; rintro e w1 ⟨⟨g, m, cap, rfl, hown0⟩, hb1⟩; clear hown0; obtain ⟨hc1, hf1⟩ := bcell hb1; rw [HI.out])
        go_ret
        exact ⟨rfl, ((Below.refl _ _).alloc (Nat.le_refl _) _).trans (hb1.mono (by simp))⟩
    · have ed : decide ((0 : Int) = 0 ∧ t.size ≤ 300) = true := decide_eq_true ⟨rfl, by omega⟩
      rw [ed]; clear ed
      have e3 : decide ((300 : Int) < (t.size : Int)) = false := by simp; omega
      cases hit : items t with
      | none =>
        have HI : Hid ((items t).isSome = false) := by show _ = _; rw [hit]; rfl
        clear hit
        go_enter Tryz.func147, Tryz.ntmps147
        go_wp2_with (go_at_call 163; refine (l01Items_any t _ hs).mono ?_; rintro e w1 ⟨⟨g, m, cap, rfl, hown0⟩, hb1⟩; clear hown0; obtain ⟨hc1, hf1⟩ := bcell hb1; rw [HI.out])
        go_ret
        exact ⟨rfl, ((Below.refl _ _).alloc (Nat.le_refl _) _).trans (hb1.mono (by simp))⟩
      | some l =>
        have HI : Hid _ := hit
        have hlen := (items_len t.size t l (Nat.le_refl _) hit).1
        have HM : Hid _ := (items_len t.size t l (Nat.le_refl _) hit).2
        clear hit
        obtain ⟨R, hR⟩ : ∃ R, R = l.all (fits d) := ⟨_, rfl⟩
        show Calls _ _ _ _ fun e w' => e = .returned (.bool (true && l.all (fits d))) ∧ _
        rw [Bool.true_and, ← hR]
        have HR : Hid _ := hR
        clear hR
        go_enter Tryz.func147, Tryz.ntmps147
        go_wp2_with (go_at_call 163; refine (l01Items_any t _ hs).mono ?_; rintro e w1 ⟨⟨g, m, cap, rfl, hown0⟩, hb1⟩; obtain ⟨rfl, hown⟩ := hown0 l HI.out; clear hown0; obtain ⟨hc1, hf1⟩ := bcell hb1; rw [HI.out])
        clear hc1 hf1
        go_loopw [7] (fun i wr => ∃ k : Nat, k ≤ l.length ∧ i = .int .i64 k ∧ (l.take k).all (fits d) = true ∧ wr.ownsRow (w.alloc (.cells #[.int .i64 4, .int .i64 0, .string t] 82)).heap.size 82 3 (.slice (some ⟨g, 0, none⟩) l.length cap) l.length (flat l) ∧ Below w.heap.size w wr) (fun i _ => l.length - (intOf i).toNat)
        case atStart => exact ⟨0, Nat.zero_le _, rfl, rfl, hown, ((Below.refl _ _).alloc (Nat.le_refl _) _).trans (hb1.mono (by simp))⟩
        case round =>
          obtain ⟨k, hk, rfl, hr, hown2, hbel⟩ := hrel
          have hT : Hid _ := hr
          clear hr
          by_cases hlt : k < l.length
          · have hg := flat_get l k hlt
            have c0 := owns_cell hown2 _ _ hg.1
            have c1 := owns_cell hown2 _ _ hg.2.1
            have c2 := owns_cell hown2 _ _ hg.2.2
            have HO : Hid _ := hown2
            have hts : l[k].t.size ≤ 1048576 := by have := HM.out l[k] (List.getElem_mem _); omega
            clear hg hown2 hown hb1
            cases hf : fits d l[k]
            · have HF : Hid _ := hf
              clear hf
              go_wp2_with (go_at_call 147; refine (ih l[k].k l[k].n l[k].t _ hts).mono ?_; rintro e w2 ⟨rfl, hb2⟩; have hf2 : fits d ⟨l[k].k, l[k].n, l[k].t⟩ = false := HF.out)
              go_ret
              refine ⟨ret_bool ?_, hbel.trans (hb2.mono hbel.size)⟩
              rw [HR.out, all_false _ l k hlt HF.out]
            · have HF : Hid _ := hf
              clear hf
              go_wp2_with (go_at_call 147; refine (ih l[k].k l[k].n l[k].t _ hts).mono ?_; rintro e w2 ⟨rfl, hb2⟩; have hf2 : fits d ⟨l[k].k, l[k].n, l[k].t⟩ = true := HF.out)
              go_roundw
              case rel => exact ⟨k + 1, by omega, by go_num, by rw [all_take_succ _ l k hlt hT.out]; exact HF.out, owns_below HO.out hb2, hbel.trans (hb2.mono hbel.size)⟩
              case measure => simp [intOf]; omega
          · clear hown hb1
            go_wp2_with fail
            go_ret
            refine ⟨ret_bool ?_, hbel⟩
            have h2 := hT.out
            rw [List.take_of_length_le (by omega)] at h2
            rw [HR.out, h2]
  · have hn' : (n == 0) = false := beq_eq_false_iff_ne.mpr hn
    have hn2 : (n != 0) = true := by simp [hn]
    have ed : decide (n = 0 ∧ t.size ≤ 300) = false := decide_eq_false (by omega)
    rw [ed, Bool.false_and]; clear ed hn
    go_enter Tryz.func147, Tryz.ntmps147
    go_wp2_with (go_at_call 163; refine (l01Items_any t _ hs).mono ?_; rintro e w1 ⟨⟨g, m, cap, rfl, hown0⟩, hb1⟩; clear hown0; obtain ⟨hc1, hf1⟩ := bcell hb1)
    go_ret
    exact ⟨rfl, ((Below.refl _ _).alloc (Nat.le_refl _) _).trans (hb1.mono (by simp))⟩

end Go.Proofs.YtcggkeleaepebaaGreatDoor
