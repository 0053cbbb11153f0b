/- What the program's cutting of bodies into items and fields answers where the body is a right one. -/
import Derived.Test.YtcggkeleaepebaaGreatDoorOKD
namespace Go.Proofs.YtcggkeleaepebaaGreatDoor
open Go.RowKit
set_option linter.unusedVariables false

set_option maxRecDepth 4000 in
set_option maxHeartbeats 1000000 in
theorem itemsIn_any (body : ByteArray) (l : List Val) (w : World) (hs : body.size ≤ 1048576) (hi : items body = some l) :
    Calls Tryz.prog 205 #[.string body] w fun e w' => (∃ v, e = .returned v ∧ w'.ownsRow w.heap.size 82 3 v l.length (flat l) ∧ (l = [] → v = .slice none 0 0) ∧ (l ≠ [] → v ≠ .slice none 0 0)) ∧ Below w.heap.size w w' := by
  obtain ⟨i0, hi0, hz0, hz1, hz2⟩ := info_parts infoV
  have HI : Hid _ := hi
  clear hi
  go_enter Tryz.func205, Tryz.ntmps205
  go_wp2_with fail
  go_loopw [0, 3] (fun u v wr => ∃ (b : ByteArray) (l1 l2 : List Val), u = .string b ∧ l1.length + b.size ≤ body.size ∧ items b = some l2 ∧ l = l1 ++ l2 ∧ wr.ownsRow w.heap.size 82 3 v l1.length (flat l1) ∧ (l1 = [] → v = .slice none 0 0) ∧ (l1 ≠ [] → v ≠ .slice none 0 0) ∧ Below w.heap.size w wr) (fun u _ _ => strSize u)
  case atStart => exact ⟨body, [], l, rfl, by simp, HI.out, rfl, World.ownsRow_nil _ _ _ _, fun _ => rfl, fun h => absurd rfl h, Below.refl _ _⟩
  case round =>
    obtain ⟨b, l1, l2, rfl, hb, h2, hl, hown, hn0, hn1, hbel⟩ := hrel
    have H2 : Hid _ := h2
    have HL : Hid _ := hl
    have HN0 : Hid _ := hn0
    have HN1 : Hid _ := hn1
    have hsz0 := hbel.size
    clear h2 hl hn0 hn1
    by_cases hz : b.size = 0
    · obtain rfl := empty_of b hz
      go_wp2_with fail
      go_ret
      have e2 : l2 = [] := by have := H2.out; rw [items_nil hz] at this; injection this with this; exact this.symm
      have e1 : l = l1 := by rw [HL.out, e2]; simp
      subst e1
      exact ⟨⟨u3, rfl, hown, HN0.out, HN1.out⟩, hbel⟩
    · have hne := ne_of b (by omega)
      have hbm : b.size ≤ maxLen := by unfold maxLen; omega
      cases hc : cutV b with
      | none => exact absurd H2.out (by rw [items_none hz hc]; simp)
      | some p =>
        obtain ⟨v, r⟩ := p
        have HC : Hid _ := hc
        have hsz := cutV_size hc
        obtain ⟨l3, h3, e3⟩ : ∃ l3, items r = some l3 ∧ l2 = v :: l3 := by
          have := H2.out
          rw [items_cons hc] at this
          cases hr : items r with
          | none => rw [hr] at this; cases this
          | some l3 => rw [hr] at this; injection this with this; exact ⟨l3, rfl, this.symm⟩
        have H3 : Hid _ := h3
        have E3 : Hid _ := e3
        clear hc h3 e3
        go_wp2_with (first | (go_at_call 185; refine (cutValue_some _ r v _ hbm HC.out).mono ?_; rintro e w1 ⟨rfl, hb1⟩; have hown1 := owns_below hown hb1) | (at_builtin; refine wpList_append_own _ rfl (.tmp 15) (.tmp 17) 181 rfl w.heap.size 82 i0 (.agg #[.int .i64 0, .int .i64 0, .string em]) 3 32 Tryz.underlying181 hi0 hz0 hz1 hz2 rfl (by decide) _ _ _ rfl ((hown1.alloc _).alloc _) ⟨w1.heap.size + 1, 0, none⟩ 1 1 (row v) rfl rfl ?c1 ?c2 ?c3 ?c4 ?c5 ?_))
        case c1 =>
          intro j u hj
          match j, hj with
          | 0, hj => simp [row] at hj; subst hj; simp [Addr.add, go_sem]
          | 1, hj => simp [row] at hj; subst hj; simp [Addr.add, go_sem]
          | 2, hj => simp [row] at hj; subst hj; simp [Addr.add, go_sem]
          | j + 3, hj => simp [row] at hj
        case c2 => intro u hu; simp [row] at hu; rcases hu with rfl | rfl | rfl <;> rfl
        case c3 => unfold maxLen; omega
        case c4 => omega
        case c5 => have := hb1.size; simp; omega
        intro v' w2 hown2 hgrow hnv
        have HV : Hid _ := hnv
        clear hnv
        have hz1 := hb1.size
        have hb0 : Below w.heap.size w w1 := hbel.trans (hb1.mono hbel.size)
        have hbl := owns_block hown
        have hb2 : Below w.heap.size w w2 := Below.grown ((hb0.alloc (by omega) _).alloc (by simp; omega) _) hgrow (by simp; omega) hbl
        clear hgrow hown1 hb1 hb0 hbl hown hbel
        go_wp2_with fail
        go_roundw
        case rel => exact ⟨r, l1 ++ [v], l3, rfl, by simp; omega, H3.out, by rw [HL.out, E3.out]; simp, by rw [flat_snoc, List.length_append]; exact hown2, fun h => by simp at h, fun _ => HV.out, hb2⟩
        case measure => simp [strSize_eq]; omega
theorem itemsIn_nil (body : ByteArray) (w : World) (hs : body.size ≤ 1048576) (hi : items body = some []) :
    Calls Tryz.prog 205 #[.string body] w fun e w' => e = .returned (.slice none 0 0) ∧ Below w.heap.size w w' :=
  (itemsIn_any body [] w hs hi).mono fun e w' ⟨⟨v, he, _, h, _⟩, hb⟩ => ⟨by rw [he, h rfl], hb⟩
theorem itemsIn_cons (body : ByteArray) (l : List Val) (w : World) (hs : body.size ≤ 1048576) (hi : items body = some l) (hl : l ≠ []) :
    Calls Tryz.prog 205 #[.string body] w fun e w' => (∃ g cap, e = .returned (.slice (some ⟨g, 0, none⟩) l.length cap) ∧ w'.ownsRow w.heap.size 82 3 (.slice (some ⟨g, 0, none⟩) l.length cap) l.length (flat l)) ∧ Below w.heap.size w w' :=
  (itemsIn_any body l w hs hi).mono fun e w' ⟨⟨v, he, ho, _, h⟩, hb⟩ => by
    obtain ⟨g, cap, hv⟩ := owns_shape ho (h hl)
    exact ⟨⟨g, cap, by rw [he, hv], by rw [← hv]; exact ho⟩, hb⟩

set_option maxRecDepth 4000 in
set_option maxHeartbeats 1000000 in
theorem fieldsIn_any (body : ByteArray) (l : List Fld) (w : World) (hs : body.size ≤ 1048576) (hi : fields body = some l) :
    Calls Tryz.prog 158 #[.string body] w fun e w' => (∃ v, e = .returned v ∧ w'.ownsRow w.heap.size 180 4 v l.length (flatF l) ∧ (l = [] → v = .slice none 0 0) ∧ (l ≠ [] → v ≠ .slice none 0 0)) ∧ Below w.heap.size w w' := by
  obtain ⟨i0, hi0, hz0, hz1, hz2⟩ := info_parts infoF
  have HI : Hid _ := hi
  clear hi
  go_enter Tryz.func158, Tryz.ntmps158
  go_wp2_with fail
  go_loopw [0, 3] (fun u v wr => ∃ (b : ByteArray) (l1 l2 : List Fld), u = .string b ∧ l1.length + b.size ≤ body.size ∧ fields b = some l2 ∧ l = l1 ++ l2 ∧ wr.ownsRow w.heap.size 180 4 v l1.length (flatF l1) ∧ (l1 = [] → v = .slice none 0 0) ∧ (l1 ≠ [] → v ≠ .slice none 0 0) ∧ Below w.heap.size w wr) (fun u _ _ => strSize u)
  case atStart => exact ⟨body, [], l, rfl, by simp, HI.out, rfl, World.ownsRow_nil _ _ _ _, fun _ => rfl, fun h => absurd rfl h, Below.refl _ _⟩
  case round =>
    obtain ⟨b, l1, l2, rfl, hb, h2, hl, hown, hn0, hn1, hbel⟩ := hrel
    have H2 : Hid _ := h2
    have HL : Hid _ := hl
    have HN0 : Hid _ := hn0
    have HN1 : Hid _ := hn1
    have hsz0 := hbel.size
    clear h2 hl hn0 hn1
    by_cases hz : b.size = 0
    · obtain rfl := empty_of b hz
      go_wp2_with fail
      go_ret
      have e2 : l2 = [] := by have := H2.out; rw [fields_nil hz] at this; injection this with this; exact this.symm
      have e1 : l = l1 := by rw [HL.out, e2]; simp
      subst e1
      exact ⟨⟨u3, rfl, hown, HN0.out, HN1.out⟩, hbel⟩
    · have hne := ne_of b (by omega)
      have hbm : b.size ≤ maxLen := by unfold maxLen; omega
      cases hc : cutF b with
      | none => exact absurd H2.out (by rw [fields_none hz hc]; simp)
      | some p =>
        obtain ⟨v, r⟩ := p
        have HC : Hid _ := hc
        have hsz := cutF_size hc
        obtain ⟨l3, h3, e3⟩ : ∃ l3, fields r = some l3 ∧ l2 = v :: l3 := by
          have := H2.out
          rw [fields_cons hc] at this
          cases hr : fields r with
          | none => rw [hr] at this; cases this
          | some l3 => rw [hr] at this; injection this with this; exact ⟨l3, rfl, this.symm⟩
        have H3 : Hid _ := h3
        have E3 : Hid _ := e3
        clear hc h3 e3
        go_wp2_with (first | (go_at_call 170; refine (cutField_some _ r v _ hbm HC.out).mono ?_; rintro e w1 ⟨rfl, hb1⟩; have hown1 := owns_below hown hb1) | (at_builtin; refine wpList_append_own _ rfl (.tmp 15) (.tmp 17) 176 rfl w.heap.size 180 i0 (.agg #[.string em, .int .i64 0, .int .i64 0, .string em]) 4 48 Tryz.underlying176 hi0 hz0 hz1 hz2 rfl (by decide) _ _ _ rfl ((hown1.alloc _).alloc _) ⟨w1.heap.size + 1, 0, none⟩ 1 1 (rowF v) rfl rfl ?c1 ?c2 ?c3 ?c4 ?c5 ?_))
        case c1 =>
          intro j u hj
          match j, hj with
          | 0, hj => simp [rowF] at hj; subst hj; simp [Addr.add, go_sem]
          | 1, hj => simp [rowF] at hj; subst hj; simp [Addr.add, go_sem]
          | 2, hj => simp [rowF] at hj; subst hj; simp [Addr.add, go_sem]
          | 3, hj => simp [rowF] at hj; subst hj; simp [Addr.add, go_sem]
          | j + 4, hj => simp [rowF] at hj
        case c2 => intro u hu; simp [rowF] at hu; rcases hu with rfl | rfl | rfl | rfl <;> rfl
        case c3 => unfold maxLen; omega
        case c4 => omega
        case c5 => have := hb1.size; simp; omega
        intro v' w2 hown2 hgrow hnv
        have HV : Hid _ := hnv
        clear hnv
        have hz1 := hb1.size
        have hb0 : Below w.heap.size w w1 := hbel.trans (hb1.mono hbel.size)
        have hbl := owns_block hown
        have hb2 : Below w.heap.size w w2 := Below.grown ((hb0.alloc (by omega) _).alloc (by simp; omega) _) hgrow (by simp; omega) hbl
        clear hgrow hown1 hb1 hb0 hbl hown hbel
        go_wp2_with fail
        go_roundw
        case rel => exact ⟨r, l1 ++ [v], l3, rfl, by simp; omega, H3.out, by rw [HL.out, E3.out]; simp, by rw [flatF_snoc, List.length_append]; exact hown2, fun h => by simp at h, fun _ => HV.out, hb2⟩
        case measure => simp [strSize_eq]; omega
theorem fieldsIn_nil (body : ByteArray) (w : World) (hs : body.size ≤ 1048576) (hi : fields body = some []) :
    Calls Tryz.prog 158 #[.string body] w fun e w' => e = .returned (.slice none 0 0) ∧ Below w.heap.size w w' :=
  (fieldsIn_any body [] w hs hi).mono fun e w' ⟨⟨v, he, _, h, _⟩, hb⟩ => ⟨by rw [he, h rfl], hb⟩
theorem fieldsIn_cons (body : ByteArray) (l : List Fld) (w : World) (hs : body.size ≤ 1048576) (hi : fields body = some l) (hl : l ≠ []) :
    Calls Tryz.prog 158 #[.string body] w fun e w' => (∃ g cap, e = .returned (.slice (some ⟨g, 0, none⟩) l.length cap) ∧ w'.ownsRow w.heap.size 180 4 (.slice (some ⟨g, 0, none⟩) l.length cap) l.length (flatF l)) ∧ Below w.heap.size w w' :=
  (fieldsIn_any body l w hs hi).mono fun e w' ⟨⟨v, he, ho, _, h⟩, hb⟩ => by
    obtain ⟨g, cap, hv⟩ := owns_shape ho (h hl)
    exact ⟨⟨g, cap, by rw [he, hv], by rw [← hv]; exact ho⟩, hb⟩

end Go.Proofs.YtcggkeleaepebaaGreatDoor
