/- What the specification's cutting of a document's body answers, for every text: the fields lie in new memory. -/
import Derived.Test.YtcggkeleaepebaaGreatDoorItems
namespace Go.Proofs.YtcggkeleaepebaaGreatDoor
open Go.RowKit
set_option linter.unusedVariables false

theorem infoF : (Tryz.prog.info? 180).map (fun i => (i.zero, i.size, i.bytes)) = some (some (.agg #[.string em, .int .i64 0, .int .i64 0, .string em]), 4, 48) := by kernel_rfl
def rowF (f : Fld) : List Value := [.string f.name, .int .i64 f.v.k, .int .i64 f.v.n, .string f.v.t]
def flatF (l : List Fld) : List Value := l.flatMap rowF
theorem flatF_snoc (l : List Fld) (f : Fld) : flatF (l ++ [f]) = flatF l ++ rowF f := by unfold flatF; simp

theorem flatF_get : ∀ (l : List Fld) (i : Nat) (h : i < l.length), (flatF l)[i * 4]? = some (.string l[i].name) ∧ (flatF l)[i * 4 + 1]? = some (.int .i64 l[i].v.k) ∧ (flatF l)[i * 4 + 2]? = some (.int .i64 l[i].v.n) ∧ (flatF l)[i * 4 + 3]? = some (.string l[i].v.t)
  | v :: l, 0, _ => ⟨rfl, rfl, rfl, rfl⟩
  | v :: l, i + 1, h => by
    have ih := flatF_get l i (by simpa using h)
    have e : flatF (v :: l) = rowF v ++ flatF l := by unfold flatF; simp
    rw [e, show (i + 1) * 4 = i * 4 + 4 by omega]
    have hl : (rowF v).length = 4 := rfl
    refine ⟨?_, ?_, ?_, ?_⟩
    · rw [List.getElem?_append_right (by omega), hl]; simpa using ih.1
    · rw [List.getElem?_append_right (by omega), hl, show i * 4 + 4 + 1 - 4 = i * 4 + 1 by omega]; simpa using ih.2.1
    · rw [List.getElem?_append_right (by omega), hl, show i * 4 + 4 + 2 - 4 = i * 4 + 2 by omega]; simpa using ih.2.2.1
    · rw [List.getElem?_append_right (by omega), hl, show i * 4 + 4 + 3 - 4 = i * 4 + 3 by omega]; simpa using ih.2.2.2

theorem beT_first (s : ByteArray) (h : 0 < s.size) : beT s 1 = s[0].toNat := by
  have := beT_step s 0 h
  rw [this, beT_zero]; simp
theorem cutF_short (s : ByteArray) (h : 0 < s.size) (h2 : s.size < 1 + s[0].toNat) : cutF s = none := by
  unfold cutF cutT
  rw [if_neg (by omega), beT_first s h, if_pos h2]
theorem cutF_long (s : ByteArray) (h : 0 < s.size) (h2 : 1 + s[0].toNat ≤ s.size) :
    cutF s = (cutV (s.extract (1 + s[0].toNat) s.size)).map fun q => (⟨s.extract 1 (1 + s[0].toNat), q.1⟩, q.2) := by
  unfold cutF cutT
  rw [if_neg (by omega), beT_first s h, if_neg (by omega)]

set_option maxRecDepth 4000 in
set_option maxHeartbeats 2000000 in
theorem l01Fields_any (body : ByteArray) (w : World) (hs : body.size ≤ 1048576) :
    Calls Tryz.prog 148 #[.string body] w fun e w' => (∃ g n cap, e = .returned (.tuple #[.slice (some ⟨g, 0, none⟩) n cap, .bool (fields body).isSome]) ∧ ∀ l, fields body = some l → n = l.length ∧ w'.ownsRow w.heap.size 180 4 (.slice (some ⟨g, 0, none⟩) l.length cap) l.length (flatF l)) ∧ Below w.heap.size w w' := by
  have hm : body.size ≤ maxLen := by unfold maxLen; omega
  obtain ⟨i0, hi, hz0, hz1, hz2⟩ := info_parts infoF
  obtain ⟨R, hR⟩ : ∃ R, R = fields body := ⟨_, rfl⟩
  rw [← hR]
  have HR : Hid _ := hR
  clear hR
  go_enter Tryz.func148, Tryz.ntmps148
  go_wp2_with fail
  go_loopw [0, 4] (fun u v wr => ∃ (b : ByteArray) (l : List Fld), u = .string b ∧ l.length + b.size ≤ body.size ∧ R = (fields b).map (l ++ ·) ∧ wr.ownsRow w.heap.size 180 4 v l.length (flatF l) ∧ v ≠ .slice none 0 0 ∧ Below w.heap.size w wr) (fun u _ _ => strSize u)
  case atStart => exact ⟨body, [], rfl, by simp, by rw [HR.out]; cases fields body <;> simp, World.ownsRow_made w #[] 0 (Nat.le_refl _) (by unfold maxLen; omega) rfl, by simp, (Below.refl _ _).alloc (Nat.le_refl _) _⟩
  case round =>
    obtain ⟨b, l, rfl, hb, hr, hown, hnn, hbel⟩ := hrel
    have HN : Hid _ := hnn
    clear hnn
    have hR : Hid _ := hr
    have hsz0 := hbel.size
    clear hr
    by_cases hz : b.size = 0
    · have hz' : ¬ (0 : Int) < (b.size : Int) := by omega
      go_wp2_with fail
      go_ret2
      have hl : R = some l := by rw [hR.out, fields_nil hz]; simp
      obtain ⟨g, cap, hv⟩ := owns_shape hown HN.out
      subst hv
      refine ⟨⟨g, _, cap, by rw [hl]; rfl, ?_⟩, hbel⟩
      intro l' hl'
      rw [hl] at hl'; injection hl' with hl'; subst hl'
      exact ⟨rfl, hown⟩
    · have hp : 0 < b.size := by omega
      have hc0 := b[0].toNat_lt
      have ew : wrap64 (b[0].toNat : Int) = b[0].toNat := IntWalk.wrap64_in _ ⟨by omega, by omega⟩
      by_cases hsh : b.size < 1 + b[0].toNat
      · have HC : Hid _ := cutF_short b hp hsh
        go_wp2_with fail
        go_ret2
        have hl : R = none := by rw [hR.out, fields_none hz HC.out]; rfl
        refine ⟨⟨_, _, _, by rw [hl]; rfl, ?_⟩, ?_⟩
        · intro l' hl'; rw [hl] at hl'; cases hl'
        · (repeat (first | (with_reducible exact Below.refl _ _) | (with_reducible assumption) | (with_reducible apply below_drewN) | (with_reducible apply Below.drew) | ((with_reducible refine Below.setCell ?_ ?_ _); rotate_left; focus (first | (simp; done) | (simp; omega) | omega)) | ((with_reducible refine Below.alloc ?_ ?_ _); rotate_left; focus (first | (simp; done) | (simp; omega) | omega))))
      · have HL : Hid _ := cutF_long b hp (by omega)
        have hx : (b.extract (1 + b[0].toNat) b.size).size = b.size - (1 + b[0].toNat) := by simp
        have hbm : (b.extract (1 + b[0].toNat) b.size).size ≤ maxLen := by unfold maxLen; omega
        cases hc : cutV (b.extract (1 + b[0].toNat) b.size) with
        | none =>
          have HC : Hid _ := hc
          clear hc
          go_wp2_with (go_at_call 164; refine (l01Next_none _ _ hbm HC.out).mono ?_; rintro e w1 ⟨rfl, hb1⟩)
          go_ret2
          have hl : R = none := by rw [hR.out, fields_none hz (by rw [HL.out, HC.out]; rfl)]; rfl
          have hz1 := hb1.size
          have hb0 : Below w.heap.size w w1 := hbel.trans (hb1.mono hbel.size)
          refine ⟨⟨_, _, _, by rw [hl]; rfl, ?_⟩, ?_⟩
          · intro l' hl'; rw [hl] at hl'; cases hl'
          · clear hb1
            (repeat (first | (with_reducible exact Below.refl _ _) | (with_reducible assumption) | (with_reducible apply below_drewN) | (with_reducible apply Below.drew) | ((with_reducible refine Below.setCell ?_ ?_ _); rotate_left; focus (first | (simp; done) | (simp; omega) | omega)) | ((with_reducible refine Below.alloc ?_ ?_ _); rotate_left; focus (first | (simp; done) | (simp; omega) | omega))))
        | some p =>
          obtain ⟨v, r⟩ := p
          have HC : Hid _ := hc
          have hsz := cutV_size hc
          clear hc
          have HF : Hid (cutF b = some (⟨b.extract 1 (1 + b[0].toNat), v⟩, r)) := by
            show _ = _
            rw [HL.out, HC.out]; rfl
          go_wp2_with (first | (go_at_call 164; refine (l01Next_some _ r v _ hbm HC.out).mono ?_; rintro e w1 ⟨rfl, hb1⟩; have hown1 := owns_below hown hb1) | (at_builtin; refine wpList_append_own _ rfl (.tmp 39) (.tmp 43) 176 rfl w.heap.size 180 i0 (.agg #[.string em, .int .i64 0, .int .i64 0, .string em]) 4 48 Tryz.underlying176 hi hz0 hz1 hz2 rfl (by decide) _ _ _ rfl ((hown1.alloc _).alloc _) ⟨w1.heap.size + 1, 0, none⟩ 1 1 (rowF ⟨b.extract 1 (1 + b[0].toNat), v⟩) rfl rfl ?c1 ?c2 ?c3 ?c4 ?c5 ?_))
          case c1 =>
            intro j u hj
            match j, hj with
            | 0, hj => simp [rowF] at hj; subst hj; simp [Addr.add, go_sem]
            | 1, hj => simp [rowF] at hj; subst hj; simp [Addr.add, go_sem]
            | 2, hj => simp [rowF] at hj; subst hj; simp [Addr.add, go_sem]
            | 3, hj => simp [rowF] at hj; subst hj; simp [Addr.add, go_sem]
            | j + 4, hj => simp [rowF] at hj
          case c2 => intro u hu; simp [rowF] at hu; rcases hu with rfl | rfl | rfl | rfl <;> rfl
          case c3 => unfold maxLen; omega
          case c4 => omega
          case c5 => have := hb1.size; simp; omega
          intro v' w2 hown2 hgrow hnv
          have HV : Hid _ := hnv
          clear hnv
          have hz1 := hb1.size
          have hb0 : Below w.heap.size w w1 := hbel.trans (hb1.mono hbel.size)
          have hbl := owns_block hown
          have hb2 : Below w.heap.size w w2 := Below.grown ((hb0.alloc (by omega) _).alloc (by simp; omega) _) hgrow (by simp; omega) hbl
          clear hgrow hown1 hb1 hb0 hbl hown hbel
          go_wp2_with fail
          go_roundw
          case rel => exact ⟨r, l ++ [⟨b.extract 1 (1 + b[0].toNat), v⟩], rfl, by simp; omega, by rw [hR.out, fields_cons HF.out]; cases fields r <;> simp, by rw [flatF_snoc, List.length_append]; exact hown2, HV.out, hb2⟩
          case measure => simp [strSize_eq]; omega

end Go.Proofs.YtcggkeleaepebaaGreatDoor
