/- What the specification's cutting of a document's body answers, for every text: the fields lie in new memory. -/
import Derived.Test.YtpfbepbmiillbaaGreatDoorFitsWQ
namespace Go.Proofs.YtpfbepbmiillbaaGreatDoor
open Go.RowKit
set_option linter.unusedVariables false

theorem infoF : (Tryz.prog.info? 268).map (fun i => (i.zero, i.size, i.bytes)) = some (some (.agg #[.string em, .int .i64 0, .int .i64 0, .string em]), 4, 48) := by kernel_rfl
def rowF (f : Fld) : List Value := [.string f.name, .int .i64 f.v.k, .int .i64 f.v.n, .string f.v.t]
def flatF (l : List Fld) : List Value := l.flatMap rowF
theorem flatF_snoc (l : List Fld) (f : Fld) : flatF (l ++ [f]) = flatF l ++ rowF f := by unfold flatF; simp

theorem flatF_get : ∀ (l : List Fld) (i : Nat) (h : i < l.length), (flatF l)[i * 4]? = some (.string l[i].name) ∧ (flatF l)[i * 4 + 1]? = some (.int .i64 l[i].v.k) ∧ (flatF l)[i * 4 + 2]? = some (.int .i64 l[i].v.n) ∧ (flatF l)[i * 4 + 3]? = some (.string l[i].v.t)
  | v :: l, 0, _ => ⟨rfl, rfl, rfl, rfl⟩
  | v :: l, i + 1, h => by
    have ih := flatF_get l i (by simpa using h)
    have e : flatF (v :: l) = rowF v ++ flatF l := by unfold flatF; simp
    rw [e, show (i + 1) * 4 = i * 4 + 4 by omega]
    have hl : (rowF v).length = 4 := rfl
    refine ⟨?_, ?_, ?_, ?_⟩
    · rw [List.getElem?_append_right (by omega), hl]; simpa using ih.1
    · rw [List.getElem?_append_right (by omega), hl, show i * 4 + 4 + 1 - 4 = i * 4 + 1 by omega]; simpa using ih.2.1
    · rw [List.getElem?_append_right (by omega), hl, show i * 4 + 4 + 2 - 4 = i * 4 + 2 by omega]; simpa using ih.2.2.1
    · rw [List.getElem?_append_right (by omega), hl, show i * 4 + 4 + 3 - 4 = i * 4 + 3 by omega]; simpa using ih.2.2.2

theorem beT_first (s : ByteArray) (h : 0 < s.size) : beT s 1 = s[0].toNat := by
  have := beT_step s 0 h
  rw [this, beT_zero]; simp
theorem cutF_short (s : ByteArray) (h : 0 < s.size) (h2 : s.size < 1 + s[0].toNat) : cutF s = none := by
  unfold cutF cutT
  rw [if_neg (by omega), beT_first s h, if_pos h2]
theorem cutF_long (s : ByteArray) (h : 0 < s.size) (h2 : 1 + s[0].toNat ≤ s.size) :
    cutF s = (cutV (s.extract (1 + s[0].toNat) s.size)).map fun q => (⟨s.extract 1 (1 + s[0].toNat), q.1⟩, q.2) := by
  unfold cutF cutT
  rw [if_neg (by omega), beT_first s h, if_neg (by omega)]

set_option maxRecDepth 4000 in
set_option maxHeartbeats 2000000 in
theorem l01Fields_any (body : ByteArray) (w : World) (hs : body.size ≤ 1048576) :
    Calls Tryz.prog 199 #[.string body] w fun e w' => (∃ g n cap, e = .returned (.tuple #[.slice (some ⟨g, 0, none⟩) n cap, .bool (fields body).isSome]) ∧ ∀ l, fields body = some l → n = l.length ∧ w'.ownsRow w.heap.size 268 4 (.slice (some ⟨g, 0, none⟩) l.length cap) l.length (flatF l)) ∧ Below w.heap.size w w' := by
  have hm : body.size ≤ maxLen := by unfold maxLen; omega
  obtain ⟨i0, hi, hz0, hz1, hz2⟩ := info_parts infoF
  obtain ⟨R, hR⟩ : ∃ R, R = fields body := ⟨_, rfl⟩
  rw [← hR]
  have HR : Hid _ := hR
  clear hR
  go_enter Tryz.func199, Tryz.ntmps199
  go_wp2_with fail
  go_loopw [0, 4] (fun u v wr => ∃ (b : ByteArray) (l : List Fld), u = .string b ∧ l.length + b.size ≤ body.size ∧ R = (fields b).map (l ++ ·) ∧ wr.ownsRow w.heap.size 268 4 v l.length (flatF l) ∧ v ≠ .slice none 0 0 ∧ Below w.heap.size w wr) (fun u _ _ => strSize u)
  case atStart => exact ⟨body, [], rfl, by simp, by rw [HR.out]; cases fields body <;> simp, World.ownsRow_made w #[] 0 (Nat.le_refl _) (by unfold maxLen; omega) rfl, by simp, (Below.refl _ _).alloc (Nat.le_refl _) _⟩
  case round =>
    obtain ⟨b, l, rfl, hb, hr, hown, hnn, hbel⟩ := hrel
    have HN : Hid _ := hnn
    clear hnn
    have hR : Hid _ := hr
    have hsz0 := hbel.size
    clear hr
    by_cases hz : b.size = 0
    · have hz' : ¬ (0 : Int) < (b.size : Int) := by omega
      go_wp2_with fail
      go_ret2
      have hl : R = some l := by rw [hR.out, fields_nil hz]; simp
      obtain ⟨g, cap, hv⟩ := owns_shape hown HN.out
      subst hv
      refine ⟨⟨g, _, cap, by rw [hl]; rfl, ?_⟩, hbel⟩
      intro l' hl'
      rw [hl] at hl'; injection hl' with hl'; subst hl'
      exact ⟨rfl, hown⟩
    · have hp : 0 < b.size := by omega
      have hc0 := b[0].toNat_lt
      have ew : wrap64 (b[0].toNat : Int) = b[0].toNat := IntWalk.wrap64_in _ ⟨by omega, by omega⟩
      by_cases hsh : b.size < 1 + b[0].toNat
      · have HC : Hid _ := cutF_short b hp hsh
        go_wp2_with fail
        go_ret2
        have hl : R = none := by rw [hR.out, fields_none hz HC.out]; rfl
        refine ⟨⟨_, _, _, by rw [hl]; rfl, ?_⟩, ?_⟩
        · intro l' hl'; rw [hl] at hl'; cases hl'
        · (repeat (first | (with_reducible exact Below.refl _ _) | (with_reducible assumption) | (with_reducible apply below_drewN) | (with_reducible apply Below.drew) | ((with_reducible refine Below.setCell ?_ ?_ _); rotate_left; focus (first | (simp; done) | (simp; omega) | omega)) | ((with_reducible refine Below.alloc ?_ ?_ _); rotate_left; focus (first | (simp; done) | (simp; omega) | omega))))
      · have HL : Hid _ := cutF_long b hp (by omega)
        have hx : (b.extract (1 + b[0].toNat) b.size).size = b.size - (1 + b[0].toNat) := by simp
        have hbm : (b.extract (1 + b[0].toNat) b.size).size ≤ maxLen := by unfold maxLen; omega
        cases hc : cutV (b.extract (1 + b[0].toNat) b.size) with
        | none =>
          have HC : Hid _ := hc
          clear hc
          go_wp2_with (go_at_call 219; refine (l01Next_none _ _ hbm HC.out).mono ?_; rintro e w1 ⟨rfl, hb1⟩)
          go_ret2
          have hl : R = none := by rw [hR.out, fields_none hz (by rw [HL.out, HC.out]; rfl)]; rfl
          have hz1 := hb1.size
          have hb0 : Below w.heap.size w w1 := hbel.trans (hb1.mono hbel.size)
          refine ⟨⟨_, _, _, by rw [hl]; rfl, ?_⟩, ?_⟩
          · intro l' hl'; rw [hl] at hl'; cases hl'
          · clear hb1
            (repeat (first | (with_reducible exact Below.refl _ _) | (with_reducible assumption) | (with_reducible apply below_drewN) | (with_reducible apply Below.drew) | ((with_reducible refine Below.setCell ?_ ?_ _); rotate_left; focus (first | (simp; done) | (simp; omega) | omega)) | ((with_reducible refine Below.alloc ?_ ?_ _); rotate_left; focus (first | (simp; done) | (simp; omega) | omega))))
        | some p =>
          obtain ⟨v, r⟩ := p
          have HC : Hid _ := hc
          have hsz := cutV_size hc
          clear hc
          have HF : Hid (cutF b = some (⟨b.extract 1 (1 + b[0].toNat), v⟩, r)) := by
            show _ = _
            rw [HL.out, HC.out]; rfl
          go_wp2_with (first | (go_at_call 219; refine (l01Next_some _ r v _ hbm HC.out).mono ?_; rintro e w1 ⟨rfl, hb1⟩; have hown1 := owns_below hown hb1) | (at_builtin; refine wpList_append_own _ rfl (.tmp 39) (.tmp 43) 264 rfl w.heap.size 268 i0 (.agg #[.string em, .int .i64 0, .int .i64 0, .string em]) 4 48 Tryz.underlying264 hi hz0 hz1 hz2 rfl (by decide) _ _ _ rfl ((hown1.alloc _).alloc _) ⟨w1.heap.size + 1, 0, none⟩ 1 1 (rowF ⟨b.extract 1 (1 + b[0].toNat), v⟩) rfl rfl ?c1 ?c2 ?c3 ?c4 ?c5 ?_))
          case c1 =>
            intro j u hj
            match j, hj with
            | 0, hj => simp [rowF] at hj; subst hj; simp [Addr.add, go_sem]
            | 1, hj => simp [rowF] at hj; subst hj; simp [Addr.add, go_sem]
            | 2, hj => simp [rowF] at hj; subst hj; simp [Addr.add, go_sem]
            | 3, hj => simp [rowF] at hj; subst hj; simp [Addr.add, go_sem]
            | j + 4, hj => simp [rowF] at hj
          case c2 => intro u hu; simp [rowF] at hu; rcases hu with rfl | rfl | rfl | rfl <;> rfl
          case c3 => unfold maxLen; omega
          case c4 => omega
          case c5 => have := hb1.size; simp; omega
          intro v' w2 hown2 hgrow hnv
          have HV : Hid _ := hnv
          clear hnv
          have hz1 := hb1.size
          have hb0 : Below w.heap.size w w1 := hbel.trans (hb1.mono hbel.size)
          have hbl := owns_block hown
          have hb2 : Below w.heap.size w w2 := Below.grown ((hb0.alloc (by omega) _).alloc (by simp; omega) _) hgrow (by simp; omega) hbl
          clear hgrow hown1 hb1 hb0 hbl hown hbel
          go_wp2_with fail
          go_roundw
          case rel => exact ⟨r, l ++ [⟨b.extract 1 (1 + b[0].toNat), v⟩], rfl, by simp; omega, by rw [hR.out, fields_cons HF.out]; cases fields r <;> simp, by rw [flatF_snoc, List.length_append]; exact hown2, HV.out, hb2⟩
          case measure => simp [strSize_eq]; omega

end Go.Proofs.YtpfbepbmiillbaaGreatDoor

/- What the program's test of a value answers, for every value and every depth: documents, and the whole. -/
namespace Go.Proofs.YtpfbepbmiillbaaGreatDoor
open Go.RowKit
set_option linter.unusedVariables false

set_option maxHeartbeats 1000000 in
theorem cutField_none (s : ByteArray) (w : World) (hs : s.size ≤ maxLen) (h : cutF s = none) :
    Calls Tryz.prog 238 #[.string s] w fun e w' => (∃ (m : ByteArray) (k n : Int) (t r : ByteArray), e = .returned (.tuple #[.agg #[.string m, .int .i64 k, .int .i64 n, .string t], .string r, .bool false])) ∧ Below w.heap.size w w' := by
  have hsd := @setCell_drewN
  unfold cutF at h
  cases hc : cutT s 1 with
  | none =>
    have HC : Hid _ := hc
    clear hc h
    go_enter Tryz.func238, Tryz.ntmps238
    go_wp2_with (go_at_call 248; refine (cutText_none s 1 _ hs (by omega) (by omega) HC.out).mono ?_; rintro e w' ⟨rfl, q, rfl⟩)
    exact bodyPost_ret (v := .tuple #[.agg #[.string em, .int .i64 0, .int .i64 0, .string em], .string em, .bool false]) (by simp [results, Tryz.results238, go_sem]) rfl ⟨⟨_, _, _, _, _, rfl⟩, by (repeat (first | (with_reducible exact Below.refl _ _) | (with_reducible assumption) | (with_reducible apply below_drewN) | (with_reducible apply Below.drew) | ((with_reducible refine Below.setCell ?_ ?_ _); rotate_left; focus (first | (simp; done) | (simp; omega) | omega)) | ((with_reducible refine Below.alloc ?_ ?_ _); rotate_left; focus (first | (simp; done) | (simp; omega) | omega))))⟩
  | some p =>
    rw [hc] at h
    have h1 := cutT_size (a := p.1) (b := p.2) hc
    obtain ⟨a, b⟩ := p
    cases hv : cutV b with
    | some q => simp only [hv] at h; cases h
    | none =>
      have HC : Hid _ := hc
      have HV : Hid _ := hv
      clear hc hv h
      have hbm : b.size ≤ maxLen := by simp at h1; omega
      clear h1
      go_enter Tryz.func238, Tryz.ntmps238
      go_wp2_with (first | (go_at_call 248; refine (cutText_some s a b 1 _ hs (by omega) (by omega) HC.out).mono ?_; rintro e w' ⟨rfl, q, rfl⟩) | (go_at_call 249; refine (cutValue_none _ _ hbm HV.out).mono ?_; rintro e w1 ⟨⟨k1, n1, t1, r1, rfl⟩, hb1⟩; obtain ⟨hc1, hf1⟩ := bcell hb1))
      have g0 : w1.cell? ⟨w.heap.size, 0, none⟩ = some (.string a) := by rw [hc1 _ _ (by simp)]; simp [go_sem]
      have g1 : w1.cell? ⟨w.heap.size, 1, none⟩ = some (.int .i64 0) := by rw [hc1 _ _ (by simp)]; simp [go_sem]
      have g2 : w1.cell? ⟨w.heap.size, 2, none⟩ = some (.int .i64 0) := by rw [hc1 _ _ (by simp)]; simp [go_sem]
      have g3 : w1.cell? ⟨w.heap.size, 3, none⟩ = some (.string em) := by rw [hc1 _ _ (by simp)]; simp [go_sem]
      have hz := hb1.size
      clear hc1 hf1
      refine bodyPost_ret (v := .tuple #[.agg #[.string a, .int .i64 k1, .int .i64 n1, .string t1], .string r1, .bool false]) (by simp [results, Tryz.results238, go_sem, isSome_setCell, *]) rfl ⟨⟨_, _, _, _, _, rfl⟩, ?_⟩
      have hb0 : Below w.heap.size w w1 := (below_drewN ((Below.refl _ _).alloc (Nat.le_refl _) _) q).trans (hb1.mono (by simp))
      clear hb1
      (repeat (first | (with_reducible exact Below.refl _ _) | (with_reducible assumption) | (with_reducible apply below_drewN) | (with_reducible apply Below.drew) | ((with_reducible refine Below.setCell ?_ ?_ _); rotate_left; focus (first | (simp; done) | (simp; omega) | omega)) | ((with_reducible refine Below.alloc ?_ ?_ _); rotate_left; focus (first | (simp; done) | (simp; omega) | omega))))

set_option maxHeartbeats 2000000 in
theorem docFits_of (d : Nat) (hd5 : d ≤ 5) (ih : FitsAt d) (body : ByteArray) (w : World) (hs : body.size ≤ maxLen) :
    Calls Tryz.prog 256 #[.string body, .int .i64 d] w fun e w' => e = .returned (.bool (fieldsAll (fits d) em (fields body))) ∧ Below w.heap.size w w' := by
  have hs' := hs
  unfold maxLen at hs'
  obtain ⟨R, hR⟩ : ∃ R, R = fieldsAll (fits d) em (fields body) := ⟨_, rfl⟩
  rw [← hR]
  have HR : Hid _ := hR
  clear hR
  go_enter Tryz.func256, Tryz.ntmps256
  go_wp2_with fail
  go_loopw [0, 5] (fun v l wr => ∃ b m : ByteArray, v = .string b ∧ l = .string m ∧ b.size ≤ body.size ∧ R = fieldsAll (fits d) m (fields b) ∧ Below w.heap.size w wr) (fun v _ _ => strSize v)
  case atStart => exact ⟨body, em, rfl, rfl, Nat.le_refl _, HR.out, Below.refl _ _⟩
  case round =>
    obtain ⟨b, m, rfl, rfl, hb, hr, hbel⟩ := hrel
    have hR : Hid _ := hr
    clear hr
    by_cases hz : b.size = 0
    · obtain rfl := empty_of b hz
      go_wp2_with fail
      go_ret
      refine ⟨ret_bool ?_, hbel⟩
      rw [hR.out, fields_nil hz]; rfl
    · have hne := ne_of b (by omega)
      have hbm : b.size ≤ maxLen := Nat.le_trans hb hs
      cases hc : cutF b with
      | none =>
        have HC : Hid _ := hc
        clear hc
        go_wp2_with (go_at_call 238; refine (cutField_none _ _ hbm HC.out).mono ?_; rintro e w1 ⟨⟨m1, k1, n1, t1, r1, rfl⟩, hb1⟩)
        go_ret
        refine ⟨ret_bool ?_, ?_⟩
        · rw [hR.out, fields_none hz HC.out]; rfl
        · exact (hbel.trans (hb1.mono hbel.size)).alloc (Nat.le_trans hbel.size hb1.size) _
      | some p =>
        obtain ⟨f, r⟩ := p
        have HC : Hid _ := hc
        have hsz := cutF_size hc
        clear hc
        have hv : f.v.t.size ≤ maxLen := by omega
        have hm : f.name.size ≤ maxLen := by omega
        have HA0 := fieldsAll_cons (p := fits d) (last := m) HC.out
        rw [← hR.out] at HA0
        have HA : Hid _ := HA0
        clear HA0
        have HL := leB_not f.name m
        cases hsh : shortB f.name
        · clear HL
          go_wp2_with (first | (go_at_call 238; refine (cutField_some _ r f _ hbm HC.out).mono ?_; rintro e w1 ⟨rfl, hb1⟩) | (go_at_call 107; refine (shortNameOK_any _ _ hm).mono ?_; rintro e w2 ⟨rfl, rfl⟩))
          go_ret
          refine ⟨ret_bool ?_, ?_⟩
          · rw [HA.out, hsh]; rfl
          · exact ((hbel.trans (hb1.mono hbel.size)).alloc (Nat.le_trans hbel.size hb1.size) _)
        · cases hlt : ltB m f.name
          · rw [hlt] at HL
            go_wp2_with (first | (go_at_call 238; refine (cutField_some _ r f _ hbm HC.out).mono ?_; rintro e w1 ⟨rfl, hb1⟩) | (go_at_call 107; refine (shortNameOK_any _ _ hm).mono ?_; rintro e w2 ⟨rfl, rfl⟩))
            go_ret
            refine ⟨ret_bool ?_, ?_⟩
            · rw [HA.out, hlt]; simp
            · exact ((hbel.trans (hb1.mono hbel.size)).alloc (Nat.le_trans hbel.size hb1.size) _)
          · rw [hlt] at HL
            cases hf : fits d f.v
            · go_wp2_with (first | (go_at_call 238; refine (cutField_some _ r f _ hbm HC.out).mono ?_; rintro e w1 ⟨rfl, hb1⟩) | (go_at_call 107; refine (shortNameOK_any _ _ hm).mono ?_; rintro e w2 ⟨rfl, rfl⟩) | (go_at_call 247; refine (ih f.v.k f.v.n f.v.t _ hv).mono ?_; rintro e w2 ⟨rfl, hb2⟩; obtain ⟨hc2, hf2⟩ := bcell hb2))
              go_ret
              refine ⟨ret_bool ?_, ?_⟩
              · rw [HA.out, hf]; simp
              · exact ((hbel.trans (hb1.mono hbel.size)).alloc (Nat.le_trans hbel.size hb1.size) _).trans (hb2.mono (by have := hbel.size; have := hb1.size; simp; omega))
            · go_wp2_with (first | (go_at_call 238; refine (cutField_some _ r f _ hbm HC.out).mono ?_; rintro e w1 ⟨rfl, hb1⟩) | (go_at_call 107; refine (shortNameOK_any _ _ hm).mono ?_; rintro e w2 ⟨rfl, rfl⟩) | (go_at_call 247; refine (ih f.v.k f.v.n f.v.t _ hv).mono ?_; rintro e w2 ⟨rfl, hb2⟩; obtain ⟨hc2, hf2⟩ := bcell hb2))
              go_roundw
              case rel => exact ⟨r, f.name, rfl, rfl, by omega, by rw [HA.out, hsh, hlt, hf]; rfl, ((hbel.trans (hb1.mono hbel.size)).alloc (Nat.le_trans hbel.size hb1.size) _).trans (hb2.mono (by have := hbel.size; have := hb1.size; simp; omega))⟩
              case measure => simp [strSize_eq]; omega

end Go.Proofs.YtpfbepbmiillbaaGreatDoor

/- What the program's test of a value answers, for every value. -/
namespace Go.Proofs.YtpfbepbmiillbaaGreatDoor
open Go.RowKit
set_option linter.unusedVariables false

theorem base_null (n : Int) (t : ByteArray) : base ⟨0, n, t⟩ = decide (n = 0 ∧ t.size = 0) := rfl
theorem base_bool (n : Int) (t : ByteArray) : base ⟨1, n, t⟩ = decide (0 ≤ n ∧ n ≤ 1 ∧ t.size = 0) := rfl
theorem base_int (n : Int) (t : ByteArray) : base ⟨2, n, t⟩ = decide (-1000000000000 ≤ n ∧ n ≤ 1000000000000 ∧ t.size = 0) := rfl
theorem base_text (n : Int) (t : ByteArray) : base ⟨3, n, t⟩ = decide (n = 0 ∧ t.size ≤ 300) := rfl
set_option maxHeartbeats 4000000 in
theorem fitsWithin_plain (d : Nat) (k n : Int) (t : ByteArray) (w : World) (hs : t.size ≤ maxLen) (h4 : k ≠ 4) (h5 : k ≠ 5) :
    Calls Tryz.prog 247 #[.agg #[.int .i64 k, .int .i64 n, .string t], .int .i64 d] w fun e w' => e = .returned (.bool (fits d ⟨k, n, t⟩)) ∧ Below w.heap.size w w' := by
  have hs' := hs
  unfold maxLen at hs'
  rw [fits_base d _ h4 h5]
  by_cases hbig : 300 < t.size
  · have e : base ⟨k, n, t⟩ = false := fits_big 0 _ hbig
    rw [e]; clear e
    go_enter Tryz.func247, Tryz.ntmps247
    go_wp2_with fail
    go_ret
    exact ⟨rfl, by (repeat (first | (with_reducible exact Below.refl _ _) | (with_reducible assumption) | (with_reducible apply below_drewN) | (with_reducible apply Below.drew) | ((with_reducible refine Below.setCell ?_ ?_ _); rotate_left; focus (first | (simp; done) | (simp; omega) | omega)) | ((with_reducible refine Below.alloc ?_ ?_ _); rotate_left; focus (first | (simp; done) | (simp; omega) | omega))))⟩
  have hbig' : decide ((300 : Int) < (t.size : Int)) = false := by simp; omega
  have hem : em.size = 0 := rfl
  have hcase : (t = em ∧ t.size = 0) ∨ (0 < t.size ∧ t.toList.isEmpty = false) := by
    by_cases h : t.size = 0
    · exact .inl ⟨empty_of t h, h⟩
    · exact .inr ⟨by omega, ne_of t (by omega)⟩
  by_cases k0 : k = 0
  · subst k0
    rw [base_null]
    rcases hcase with ⟨rfl, hz⟩ | ⟨hz, hne⟩
    · by_cases hn : n = 0
      all_goals
        go_enter Tryz.func247, Tryz.ntmps247
        go_wp2_with fail
        go_ret
        exact ⟨ret_bool (by first | (rw [decide_eq_decide]; omega) | (rw [Bool.eq_iff_iff]; simp; omega) | exact (decide_eq_true (by omega)).symm | exact (decide_eq_false (by omega)).symm), by (repeat (first | (with_reducible exact Below.refl _ _) | (with_reducible assumption) | (with_reducible apply below_drewN) | (with_reducible apply Below.drew) | ((with_reducible refine Below.setCell ?_ ?_ _); rotate_left; focus (first | (simp; done) | (simp; omega) | omega)) | ((with_reducible refine Below.alloc ?_ ?_ _); rotate_left; focus (first | (simp; done) | (simp; omega) | omega))))⟩
    · by_cases hn : n = 0
      all_goals
        go_enter Tryz.func247, Tryz.ntmps247
        go_wp2_with fail
        go_ret
        exact ⟨ret_bool (by first | (rw [decide_eq_decide]; omega) | (rw [Bool.eq_iff_iff]; simp; omega) | exact (decide_eq_true (by omega)).symm | exact (decide_eq_false (by omega)).symm), by (repeat (first | (with_reducible exact Below.refl _ _) | (with_reducible assumption) | (with_reducible apply below_drewN) | (with_reducible apply Below.drew) | ((with_reducible refine Below.setCell ?_ ?_ _); rotate_left; focus (first | (simp; done) | (simp; omega) | omega)) | ((with_reducible refine Below.alloc ?_ ?_ _); rotate_left; focus (first | (simp; done) | (simp; omega) | omega))))⟩
  by_cases k1 : k = 1
  · subst k1
    rw [base_bool]
    rcases hcase with ⟨rfl, hz⟩ | ⟨hz, hne⟩
    · rcases (show n < 0 ∨ (0 ≤ n ∧ n ≤ 1) ∨ 1 < n by omega) with hn | hn | hn
      all_goals
        go_enter Tryz.func247, Tryz.ntmps247
        go_wp2_with fail
        go_ret
        exact ⟨ret_bool (by first | (rw [decide_eq_decide]; omega) | (rw [Bool.eq_iff_iff]; simp; omega) | exact (decide_eq_true (by omega)).symm | exact (decide_eq_false (by omega)).symm), by (repeat (first | (with_reducible exact Below.refl _ _) | (with_reducible assumption) | (with_reducible apply below_drewN) | (with_reducible apply Below.drew) | ((with_reducible refine Below.setCell ?_ ?_ _); rotate_left; focus (first | (simp; done) | (simp; omega) | omega)) | ((with_reducible refine Below.alloc ?_ ?_ _); rotate_left; focus (first | (simp; done) | (simp; omega) | omega))))⟩
    · rcases (show n < 0 ∨ (0 ≤ n ∧ n ≤ 1) ∨ 1 < n by omega) with hn | hn | hn
      all_goals
        go_enter Tryz.func247, Tryz.ntmps247
        go_wp2_with fail
        go_ret
        exact ⟨ret_bool (by first | (rw [decide_eq_decide]; omega) | (rw [Bool.eq_iff_iff]; simp; omega) | exact (decide_eq_true (by omega)).symm | exact (decide_eq_false (by omega)).symm), by (repeat (first | (with_reducible exact Below.refl _ _) | (with_reducible assumption) | (with_reducible apply below_drewN) | (with_reducible apply Below.drew) | ((with_reducible refine Below.setCell ?_ ?_ _); rotate_left; focus (first | (simp; done) | (simp; omega) | omega)) | ((with_reducible refine Below.alloc ?_ ?_ _); rotate_left; focus (first | (simp; done) | (simp; omega) | omega))))⟩
  by_cases k2 : k = 2
  · subst k2
    rw [base_int]
    rcases hcase with ⟨rfl, hz⟩ | ⟨hz, hne⟩
    · rcases (show n < -1000000000000 ∨ (-1000000000000 ≤ n ∧ n ≤ 1000000000000) ∨ 1000000000000 < n by omega) with hn | hn | hn
      all_goals
        go_enter Tryz.func247, Tryz.ntmps247
        go_wp2_with fail
        go_ret
        exact ⟨ret_bool (by first | (rw [decide_eq_decide]; omega) | (rw [Bool.eq_iff_iff]; simp; omega) | exact (decide_eq_true (by omega)).symm | exact (decide_eq_false (by omega)).symm), by (repeat (first | (with_reducible exact Below.refl _ _) | (with_reducible assumption) | (with_reducible apply below_drewN) | (with_reducible apply Below.drew) | ((with_reducible refine Below.setCell ?_ ?_ _); rotate_left; focus (first | (simp; done) | (simp; omega) | omega)) | ((with_reducible refine Below.alloc ?_ ?_ _); rotate_left; focus (first | (simp; done) | (simp; omega) | omega))))⟩
    · rcases (show n < -1000000000000 ∨ (-1000000000000 ≤ n ∧ n ≤ 1000000000000) ∨ 1000000000000 < n by omega) with hn | hn | hn
      all_goals
        go_enter Tryz.func247, Tryz.ntmps247
        go_wp2_with fail
        go_ret
        exact ⟨ret_bool (by first | (rw [decide_eq_decide]; omega) | (rw [Bool.eq_iff_iff]; simp; omega) | exact (decide_eq_true (by omega)).symm | exact (decide_eq_false (by omega)).symm), by (repeat (first | (with_reducible exact Below.refl _ _) | (with_reducible assumption) | (with_reducible apply below_drewN) | (with_reducible apply Below.drew) | ((with_reducible refine Below.setCell ?_ ?_ _); rotate_left; focus (first | (simp; done) | (simp; omega) | omega)) | ((with_reducible refine Below.alloc ?_ ?_ _); rotate_left; focus (first | (simp; done) | (simp; omega) | omega))))⟩
  by_cases k3 : k = 3
  · subst k3
    rw [base_text]
    by_cases hn : n = 0
    all_goals
      go_enter Tryz.func247, Tryz.ntmps247
      go_wp2_with fail
      go_ret
      exact ⟨ret_bool (by first | (rw [decide_eq_decide]; omega) | (rw [Bool.eq_iff_iff]; simp; omega) | exact (decide_eq_true (by omega)).symm | exact (decide_eq_false (by omega)).symm), by (repeat (first | (with_reducible exact Below.refl _ _) | (with_reducible assumption) | (with_reducible apply below_drewN) | (with_reducible apply Below.drew) | ((with_reducible refine Below.setCell ?_ ?_ _); rotate_left; focus (first | (simp; done) | (simp; omega) | omega)) | ((with_reducible refine Below.alloc ?_ ?_ _); rotate_left; focus (first | (simp; done) | (simp; omega) | omega))))⟩
  · have e : base ⟨k, n, t⟩ = false := by
      unfold base; simp only [k0, k1, k2, k3, if_false]
    rw [e]; clear e
    go_enter Tryz.func247, Tryz.ntmps247
    go_wp2_with fail
    go_ret
    exact ⟨rfl, by (repeat (first | (with_reducible exact Below.refl _ _) | (with_reducible assumption) | (with_reducible apply below_drewN) | (with_reducible apply Below.drew) | ((with_reducible refine Below.setCell ?_ ?_ _); rotate_left; focus (first | (simp; done) | (simp; omega) | omega)) | ((with_reducible refine Below.alloc ?_ ?_ _); rotate_left; focus (first | (simp; done) | (simp; omega) | omega))))⟩

set_option maxHeartbeats 1000000 in
theorem fitsWithin_at : ∀ d : Nat, d ≤ 5 → FitsAt d
  | 0, _ => by
    intro k n t w hs
    by_cases h4 : k = 4 ∨ k = 5
    · have e : fits 0 ⟨k, n, t⟩ = false := base_holder _ h4
      rw [e]; clear e
      by_cases hbig : 300 < t.size
      · go_enter Tryz.func247, Tryz.ntmps247
        go_wp2_with fail
        go_ret
        exact ⟨rfl, by (repeat (first | (with_reducible exact Below.refl _ _) | (with_reducible assumption) | (with_reducible apply below_drewN) | (with_reducible apply Below.drew) | ((with_reducible refine Below.setCell ?_ ?_ _); rotate_left; focus (first | (simp; done) | (simp; omega) | omega)) | ((with_reducible refine Below.alloc ?_ ?_ _); rotate_left; focus (first | (simp; done) | (simp; omega) | omega))))⟩
      · by_cases hn : n = 0
        · subst hn
          rcases h4 with rfl | rfl
          all_goals
            go_enter Tryz.func247, Tryz.ntmps247
            go_wp2_with fail
            go_ret
            exact ⟨rfl, by (repeat (first | (with_reducible exact Below.refl _ _) | (with_reducible assumption) | (with_reducible apply below_drewN) | (with_reducible apply Below.drew) | ((with_reducible refine Below.setCell ?_ ?_ _); rotate_left; focus (first | (simp; done) | (simp; omega) | omega)) | ((with_reducible refine Below.alloc ?_ ?_ _); rotate_left; focus (first | (simp; done) | (simp; omega) | omega))))⟩
        · have hn' : (n == 0) = false := beq_eq_false_iff_ne.mpr hn
          rcases h4 with rfl | rfl
          all_goals
            go_enter Tryz.func247, Tryz.ntmps247
            go_wp2_with fail
            go_ret
            exact ⟨rfl, by (repeat (first | (with_reducible exact Below.refl _ _) | (with_reducible assumption) | (with_reducible apply below_drewN) | (with_reducible apply Below.drew) | ((with_reducible refine Below.setCell ?_ ?_ _); rotate_left; focus (first | (simp; done) | (simp; omega) | omega)) | ((with_reducible refine Below.alloc ?_ ?_ _); rotate_left; focus (first | (simp; done) | (simp; omega) | omega))))⟩
    · exact fitsWithin_plain 0 k n t w hs (by omega) (by omega)
  | d + 1, hd => by
    have ih := fitsWithin_at d (by omega)
    intro k n t w hs
    by_cases h4 : k = 4 ∨ k = 5
    · by_cases hbig : 300 < t.size
      · have e : fits (d + 1) ⟨k, n, t⟩ = false := fits_big _ _ hbig
        rw [e]; clear e
        go_enter Tryz.func247, Tryz.ntmps247
        go_wp2_with fail
        go_ret
        exact ⟨rfl, by (repeat (first | (with_reducible exact Below.refl _ _) | (with_reducible assumption) | (with_reducible apply below_drewN) | (with_reducible apply Below.drew) | ((with_reducible refine Below.setCell ?_ ?_ _); rotate_left; focus (first | (simp; done) | (simp; omega) | omega)) | ((with_reducible refine Below.alloc ?_ ?_ _); rotate_left; focus (first | (simp; done) | (simp; omega) | omega))))⟩
      · by_cases hn : n = 0
        · subst hn
          have ed : decide ((0 : Int) = 0 ∧ t.size ≤ 300) = true := decide_eq_true ⟨rfl, by omega⟩
          rcases h4 with rfl | rfl
          · rw [fits_list d _ rfl]
            show Calls _ _ _ _ fun e w' => e = .returned (.bool (decide ((0 : Int) = 0 ∧ t.size ≤ 300) && itemsAll (fits d) (items t))) ∧ _
            rw [ed]; clear ed
            go_enter Tryz.func247, Tryz.ntmps247
            go_wp2_with (go_at_call 255; refine (listFits_of d (by omega) ih t _ hs).mono ?_; rintro e w1 ⟨rfl, hb1⟩)
            go_ret
            exact ⟨ret_bool (by simp), ((Below.refl _ _).alloc (Nat.le_refl _) _).trans (hb1.mono (by simp))⟩
          · rw [fits_doc d _ rfl]
            show Calls _ _ _ _ fun e w' => e = .returned (.bool (decide ((0 : Int) = 0 ∧ t.size ≤ 300) && fieldsAll (fits d) em (fields t))) ∧ _
            rw [ed]; clear ed
            go_enter Tryz.func247, Tryz.ntmps247
            go_wp2_with (go_at_call 256; refine (docFits_of d (by omega) ih t _ hs).mono ?_; rintro e w1 ⟨rfl, hb1⟩)
            go_ret
            exact ⟨ret_bool (by simp), ((Below.refl _ _).alloc (Nat.le_refl _) _).trans (hb1.mono (by simp))⟩
        · have hn' : (n == 0) = false := beq_eq_false_iff_ne.mpr hn
          have ed : decide (n = 0 ∧ t.size ≤ 300) = false := decide_eq_false (by omega)
          have e : fits (d + 1) ⟨k, n, t⟩ = false := by
            rcases h4 with rfl | rfl
            · rw [fits_list d _ rfl]; show (decide (n = 0 ∧ t.size ≤ 300) && _) = _; rw [ed]; rfl
            · rw [fits_doc d _ rfl]; show (decide (n = 0 ∧ t.size ≤ 300) && _) = _; rw [ed]; rfl
          rw [e]; clear e ed
          rcases h4 with rfl | rfl
          all_goals
            go_enter Tryz.func247, Tryz.ntmps247
            go_wp2_with fail
            go_ret
            exact ⟨rfl, by (repeat (first | (with_reducible exact Below.refl _ _) | (with_reducible assumption) | (with_reducible apply below_drewN) | (with_reducible apply Below.drew) | ((with_reducible refine Below.setCell ?_ ?_ _); rotate_left; focus (first | (simp; done) | (simp; omega) | omega)) | ((with_reducible refine Below.alloc ?_ ?_ _); rotate_left; focus (first | (simp; done) | (simp; omega) | omega))))⟩
    · exact fitsWithin_plain (d + 1) k n t w hs (by omega) (by omega)

/-- The value is right. -/
def okB (v : Val) : Bool := fits 5 v

set_option maxHeartbeats 400000 in
theorem valueOK_any (k n : Int) (t : ByteArray) (w : World) (hs : t.size ≤ maxLen) :
    Calls Tryz.prog 237 #[.agg #[.int .i64 k, .int .i64 n, .string t]] w fun e w' => e = .returned (.bool (okB ⟨k, n, t⟩)) ∧ Below w.heap.size w w' := by
  go_enter Tryz.func237, Tryz.ntmps237
  go_wp2_with (go_at_call 247; refine (fitsWithin_at 5 (by omega) k n t _ hs).mono ?_; rintro e w1 ⟨rfl, hb1⟩)
  go_ret
  exact ⟨rfl, ((Below.refl _ _).alloc (Nat.le_refl _) _).trans (hb1.mono (by simp))⟩

end Go.Proofs.YtpfbepbmiillbaaGreatDoor
