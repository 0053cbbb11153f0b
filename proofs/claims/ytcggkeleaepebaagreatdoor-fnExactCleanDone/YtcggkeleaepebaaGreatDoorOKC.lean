/- What the specification's test of a value answers for documents. -/
import Derived.Test.YtcggkeleaepebaaGreatDoorUnder
namespace Go.Proofs.YtcggkeleaepebaaGreatDoor
open Go.RowKit
set_option linter.unusedVariables false

theorem rise_drop (p : Val → Bool) (m : ByteArray) (l : List Fld) (k : Nat) (h : k < l.length) :
    riseAll p m (l.drop k) = (shortB l[k].name && ltB m l[k].name && p l[k].v && riseAll p l[k].name (l.drop (k + 1))) := by
  rw [List.drop_eq_getElem_cons h]; rfl

set_option maxRecDepth 4000 in
set_option maxHeartbeats 1500000 in
theorem l01OK_doc_some (d : Nat) (ih : OKAt d) (hd : d ≤ 4) (t : ByteArray) (w : World) (hs : t.size ≤ 300) (l : List Fld) (hit : fields t = some l) :
    Calls Tryz.prog 147 #[.agg #[.int .i64 5, .int .i64 0, .string t], .int .i64 ((d : Int) + 1)] w fun e w' => e = .returned (.bool (riseAll (fits d) em l)) ∧ Below w.heap.size w w' := by
  have e5 : ((d : Int) + 1 == 0) = false := beq_eq_false_iff_ne.mpr (by omega)
  have e3 : decide ((300 : Int) < (t.size : Int)) = false := by simp; omega
  have HI : Hid _ := hit
  have hlen := (fields_len t.size t l (Nat.le_refl _) hit).1
  have HM : Hid _ := (fields_len t.size t l (Nat.le_refl _) hit).2
  clear hit
  obtain ⟨R, hR⟩ : ∃ R, R = riseAll (fits d) em l := ⟨_, rfl⟩
  rw [← hR]
  have HR : Hid _ := hR
  clear hR
  go_enter Tryz.func147, Tryz.ntmps147
  go_wp2_with (go_at_call 148; refine (l01Fields_any t _ (by omega)).mono ?_; rintro e w1 ⟨⟨g, m, cap, rfl, hown0⟩, hb1⟩; obtain ⟨rfl, hown⟩ := hown0 l HI.out; clear hown0; obtain ⟨hc1, hf1⟩ := bcell hb1; rw [HI.out])
  clear hc1 hf1
  go_loopw [10] (fun i wr => ∃ (k : Nat) (m : ByteArray), k ≤ l.length ∧ i = .int .i64 k ∧ R = riseAll (fits d) m (l.drop k) ∧ (k = 0 → m = em) ∧ (∀ h : k - 1 < l.length, 0 < k → m = l[k - 1].name) ∧ wr.ownsRow (w.alloc (.cells #[.int .i64 5, .int .i64 0, .string t] 82)).heap.size 180 4 (.slice (some ⟨g, 0, none⟩) l.length cap) l.length (flatF l) ∧ Below w.heap.size w wr) (fun i _ => l.length - (intOf i).toNat)
  case atStart => exact ⟨0, em, Nat.zero_le _, rfl, HR.out, fun _ => rfl, fun _ h => by omega, hown, ((Below.refl _ _).alloc (Nat.le_refl _) _).trans (hb1.mono (by simp))⟩
  case round =>
    obtain ⟨k, m, hk, rfl, hr, hm0, hm1, hown2, hbel⟩ := hrel
    have hT : Hid _ := hr
    have HM0 : Hid _ := hm0
    have HM1 : Hid _ := hm1
    clear hr hm0 hm1 hown hb1
    by_cases hlt : k < l.length
    · have hg := flatF_get l k hlt
      have c0 := owns_cell hown2 _ _ hg.1
      have c1 := owns_cell hown2 _ _ hg.2.1
      have c2 := owns_cell hown2 _ _ hg.2.2.1
      have c3 := owns_cell hown2 _ _ hg.2.2.2
      have HO : Hid _ := hown2
      have hq := HM.out l[k] (List.getElem_mem _)
      have hnm : l[k].name.size ≤ maxLen := by unfold maxLen; omega
      have hts : l[k].v.t.size ≤ 1048576 := by omega
      have HA0 := rise_drop (fits d) m l k hlt
      rw [← hT.out] at HA0
      have HA : Hid _ := HA0
      clear HA0 hg hq
      have hkl : (k : Int) < (l.length : Int) := by omega
      have hgl : g < wr.heap.size := (hown2.lt g rfl).2
      have q0 : ∀ u : Under wr, u.x.cell? ⟨g, k * 4, none⟩ = some (.string l[k].name) := fun u => (u.h.cell hgl).trans c0
      have q1 : ∀ u : Under wr, u.x.cell? ⟨g, k * 4 + 1, none⟩ = some (.int .i64 l[k].v.k) := fun u => (u.h.cell hgl).trans c1
      have q2 : ∀ u : Under wr, u.x.cell? ⟨g, k * 4 + 2, none⟩ = some (.int .i64 l[k].v.n) := fun u => (u.h.cell hgl).trans c2
      have q3 : ∀ u : Under wr, u.x.cell? ⟨g, k * 4 + 3, none⟩ = some (.string l[k].v.t) := fun u => (u.h.cell hgl).trans c3
      have hnu : Nonempty (Under wr) := ⟨⟨wr, Below.refl _ _⟩⟩
      clear c0 c1 c2 c3
      cases hsh : shortB l[k].name
      · clear hown2
        go_wp2_with fail
        refine wp_region_under (by kernel_rfl) (by kernel_rfl) ?_
        repeat (go_big_quiet_step ((first | (go_at_call 94; exact calls_under_same _ (by have := l01Name_any l[k].name; rw [hsh] at this; exact this _ hnm)))))
        refine wpQuiet_nil ?_
        rintro _ ⟨u, rfl⟩
        go_wp2_with fail
        go_ret
        refine ⟨ret_bool ?_, ?_⟩
        · rw [HA.out, hsh]; rfl
        · exact hbel.trans (u.h.mono hbel.size)
      · rcases Nat.eq_zero_or_pos k with hk0 | hk0
        · have hme : m = em := HM0.out hk0
          subst hk0
          subst hme
          have hlt0 : ltB em l[0].name = true := ltB_em _ (shortB_pos _ hsh)
          cases hf : fits d l[0].v
          · have HF : Hid _ := hf
            clear hf hown2
            go_wp2_with fail
            refine wp_region_under (by kernel_rfl) (by kernel_rfl) ?_
            repeat (go_big_quiet_step ((first | (go_at_call 94; exact calls_under_same _ (by have := l01Name_any l[0].name; rw [hsh] at this; exact this _ hnm)) | (go_at_call 147; exact calls_under _ (by have := ih l[0].v.k l[0].v.n l[0].v.t; rw [show fits d ⟨l[0].v.k, l[0].v.n, l[0].v.t⟩ = false from HF.out] at this; exact this _ hts)))))
            refine wpQuiet_nil ?_
            rintro _ ⟨u, rfl⟩
            go_wp2_with fail
            go_ret
            refine ⟨ret_bool ?_, ?_⟩
            · rw [HA.out, HF.out]; simp
            · exact hbel.trans (u.h.mono hbel.size)
          · have HF : Hid _ := hf
            clear hf hown2
            go_wp2_with fail
            refine wp_region_under (by kernel_rfl) (by kernel_rfl) ?_
            repeat (go_big_quiet_step ((first | (go_at_call 94; exact calls_under_same _ (by have := l01Name_any l[0].name; rw [hsh] at this; exact this _ hnm)) | (go_at_call 147; exact calls_under _ (by have := ih l[0].v.k l[0].v.n l[0].v.t; rw [show fits d ⟨l[0].v.k, l[0].v.n, l[0].v.t⟩ = true from HF.out] at this; exact this _ hts)))))
            refine wpQuiet_nil ?_
            rintro _ ⟨u, rfl⟩
            go_wp2_with fail
            go_roundw
            case rel => exact ⟨0 + 1, l[0].name, by omega, by go_num, by rw [HA.out, hsh, hlt0, HF.out]; rfl, fun h => by omega, fun _ _ => rfl, owns_below HO.out u.h, hbel.trans (u.h.mono hbel.size)⟩
            case measure => simp [intOf]; omega
        · have hk1 : k - 1 < l.length := by omega
          have hme : m = l[k - 1].name := HM1.out hk1 hk0
          have hg1 := flatF_get l (k - 1) hk1
          have cp := owns_cell hown2 _ _ hg1.1
          have qp : ∀ u : Under wr, u.x.cell? ⟨g, (k - 1) * 4, none⟩ = some (.string l[k - 1].name) := fun u => (u.h.cell hgl).trans cp
          have hk0' : (0 : Int) < (k : Int) := by omega
          have HE : Hid _ := hme
          clear hg1 cp hme hown2
          cases hlt0 : ltB l[k - 1].name l[k].name
          · have hlt1 : Op.bytesLess l[k - 1].name.toList l[k].name.toList = false := hlt0
            go_wp2_with fail
            refine wp_region_under (by kernel_rfl) (by kernel_rfl) ?_
            repeat (go_big_quiet_step ((first | (go_at_call 94; exact calls_under_same _ (by have := l01Name_any l[k].name; rw [hsh] at this; exact this _ hnm)))))
            refine wpQuiet_nil ?_
            rintro _ ⟨u, rfl⟩
            go_wp2_with fail
            go_ret
            refine ⟨ret_bool ?_, ?_⟩
            · rw [HA.out, HE.out, hlt0]; simp
            · exact hbel.trans (u.h.mono hbel.size)
          · have hlt1 : Op.bytesLess l[k - 1].name.toList l[k].name.toList = true := hlt0
            cases hf : fits d l[k].v
            · have HF : Hid _ := hf
              clear hf
              go_wp2_with fail
              refine wp_region_under (by kernel_rfl) (by kernel_rfl) ?_
              repeat (go_big_quiet_step ((first | (go_at_call 94; exact calls_under_same _ (by have := l01Name_any l[k].name; rw [hsh] at this; exact this _ hnm)) | (go_at_call 147; exact calls_under _ (by have := ih l[k].v.k l[k].v.n l[k].v.t; rw [show fits d ⟨l[k].v.k, l[k].v.n, l[k].v.t⟩ = false from HF.out] at this; exact this _ hts)))))
              refine wpQuiet_nil ?_
              rintro _ ⟨u, rfl⟩
              go_wp2_with fail
              go_ret
              refine ⟨ret_bool ?_, ?_⟩
              · rw [HA.out, HF.out]; simp
              · exact hbel.trans (u.h.mono hbel.size)
            · have HF : Hid _ := hf
              clear hf
              go_wp2_with fail
              refine wp_region_under (by kernel_rfl) (by kernel_rfl) ?_
              repeat (go_big_quiet_step ((first | (go_at_call 94; exact calls_under_same _ (by have := l01Name_any l[k].name; rw [hsh] at this; exact this _ hnm)) | (go_at_call 147; exact calls_under _ (by have := ih l[k].v.k l[k].v.n l[k].v.t; rw [show fits d ⟨l[k].v.k, l[k].v.n, l[k].v.t⟩ = true from HF.out] at this; exact this _ hts)))))
              refine wpQuiet_nil ?_
              rintro _ ⟨u, rfl⟩
              go_wp2_with fail
              go_roundw
              case rel => exact ⟨k + 1, l[k].name, by omega, by go_num, by rw [HA.out, HE.out, hsh, hlt0, HF.out]; rfl, fun h => by omega, fun _ _ => rfl, owns_below HO.out u.h, hbel.trans (u.h.mono hbel.size)⟩
              case measure => simp [intOf]; omega
    · clear hown2
      go_wp2_with fail
      go_ret
      refine ⟨ret_bool ?_, hbel⟩
      rw [hT.out, List.drop_of_length_le (by omega)]; rfl

end Go.Proofs.YtcggkeleaepebaaGreatDoor
