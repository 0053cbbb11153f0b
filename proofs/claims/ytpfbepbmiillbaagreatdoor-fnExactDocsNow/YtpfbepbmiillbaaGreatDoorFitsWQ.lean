/- What the program's test of a value answers, for every value and every depth. -/
import Derived.Test.YtpfbepbmiillbaaGreatDoorNextQ
import Derived.Test.YtpfbepbmiillbaaGreatDoorChgBQ
namespace Go.Proofs.YtpfbepbmiillbaaGreatDoor
open Go.RowKit
set_option linter.unusedVariables false

theorem bcell {W w1 : World} (hb : Below W.heap.size W w1) : (∀ b o, b < W.heap.size → w1.cell? ⟨b, o, none⟩ = W.cell? ⟨b, o, none⟩) ∧ (∀ b o, b < W.heap.size → w1.frozen? ⟨b, o, none⟩ = W.frozen? ⟨b, o, none⟩) :=
  ⟨fun b o h => hb.cell (p := ⟨b, o, none⟩) h, fun b o h => hb.frozen (p := ⟨b, o, none⟩) h⟩

set_option maxHeartbeats 400000 in
theorem shortNameOK_any (s : ByteArray) (w : World) (hs : s.size ≤ maxLen) :
    Calls Tryz.prog 107 #[.string s] w fun e w' => e = .returned (.bool (shortB s)) ∧ w' = w := by
  by_cases h : s.size ≤ 12
  · have e : shortB s = nameB s := by unfold shortB; simp [h]
    rw [e]; clear e
    go_enter Tryz.func107, Tryz.ntmps107
    go_wp2_with (go_at_call 142; refine (nameOK_any _ _ hs).mono ?_; rintro e w' ⟨rfl, rfl⟩)
    go_ret
    exact ⟨rfl, rfl⟩
  · have e : shortB s = false := by unfold shortB; simp [h]
    rw [e]; clear e
    go_enter Tryz.func107, Tryz.ntmps107
    go_wp2_with fail
    go_ret
    exact ⟨rfl, rfl⟩

/-- The test of a value at one depth, as its callers take it. -/
def FitsAt (d : Nat) : Prop := ∀ (k n : Int) (t : ByteArray) (w : World), t.size ≤ maxLen →
    Calls Tryz.prog 247 #[.agg #[.int .i64 k, .int .i64 n, .string t], .int .i64 d] w fun e w' => e = .returned (.bool (fits d ⟨k, n, t⟩)) ∧ Below w.heap.size w w'

set_option maxHeartbeats 1000000 in
theorem listFits_of (d : Nat) (hd5 : d ≤ 5) (ih : FitsAt d) (body : ByteArray) (w : World) (hs : body.size ≤ maxLen) :
    Calls Tryz.prog 255 #[.string body, .int .i64 d] w fun e w' => e = .returned (.bool (itemsAll (fits d) (items body))) ∧ Below w.heap.size w w' := by
  have hs' := hs
  unfold maxLen at hs'
  obtain ⟨R, hR⟩ : ∃ R, R = itemsAll (fits d) (items body) := ⟨_, rfl⟩
  rw [← hR]
  have HR : Hid _ := hR
  clear hR
  go_enter Tryz.func255, Tryz.ntmps255
  go_wp2_with fail
  go_loopw [0] (fun v wr => ∃ b : ByteArray, v = .string b ∧ b.size ≤ body.size ∧ R = itemsAll (fits d) (items b) ∧ Below w.heap.size w wr) (fun v _ => strSize v)
  case atStart => exact ⟨body, rfl, Nat.le_refl _, HR.out, Below.refl _ _⟩
  case round =>
    obtain ⟨b, rfl, hb, hr, hbel⟩ := hrel
    have hR : Hid _ := hr
    clear hr
    by_cases hz : b.size = 0
    · obtain rfl := empty_of b hz
      go_wp2_with fail
      go_ret
      refine ⟨ret_bool ?_, hbel⟩
      rw [hR.out, items_nil hz]; rfl
    · have hne := ne_of b (by omega)
      have hbm : b.size ≤ maxLen := Nat.le_trans hb hs
      cases hc : cutV b with
      | none =>
        have HC : Hid _ := hc
        clear hc
        go_wp2_with (go_at_call 249; refine (cutValue_none _ _ hbm HC.out).mono ?_; rintro e w1 ⟨⟨k1, n1, t1, r1, rfl⟩, hb1⟩)
        go_ret
        refine ⟨ret_bool ?_, ?_⟩
        · rw [hR.out, items_none hz HC.out]; rfl
        · exact (hbel.trans (hb1.mono hbel.size)).alloc (Nat.le_trans hbel.size hb1.size) _
      | some p =>
        obtain ⟨v, r⟩ := p
        have HC : Hid _ := hc
        have hsz := cutV_size hc
        clear hc
        have hv : v.t.size ≤ maxLen := by omega
        cases hf : fits d v
        · go_wp2_with (first | (go_at_call 249; refine (cutValue_some _ r v _ hbm HC.out).mono ?_; rintro e w1 ⟨rfl, hb1⟩) | (go_at_call 247; refine (ih v.k v.n v.t _ hv).mono ?_; rintro e w2 ⟨rfl, hb2⟩))
          go_ret
          refine ⟨ret_bool ?_, ?_⟩
          · rw [hR.out, itemsAll_cons HC.out, hf]; rfl
          · exact ((hbel.trans (hb1.mono hbel.size)).alloc (Nat.le_trans hbel.size hb1.size) _).trans (hb2.mono (by have := hbel.size; have := hb1.size; simp; omega))
        · go_wp2_with (first | (go_at_call 249; refine (cutValue_some _ r v _ hbm HC.out).mono ?_; rintro e w1 ⟨rfl, hb1⟩) | (go_at_call 247; refine (ih v.k v.n v.t _ hv).mono ?_; rintro e w2 ⟨rfl, hb2⟩))
          go_roundw
          case rel => exact ⟨r, rfl, by omega, by rw [hR.out, itemsAll_cons HC.out, hf]; rfl, ((hbel.trans (hb1.mono hbel.size)).alloc (Nat.le_trans hbel.size hb1.size) _).trans (hb2.mono (by have := hbel.size; have := hb1.size; simp; omega))⟩
          case measure => simp [strSize_eq]; omega

set_option maxHeartbeats 1000000 in
theorem cutField_some (s r : ByteArray) (f : Fld) (w : World) (hs : s.size ≤ maxLen) (h : cutF s = some (f, r)) :
    Calls Tryz.prog 238 #[.string s] w fun e w' => e = .returned (.tuple #[.agg #[.string f.name, .int .i64 f.v.k, .int .i64 f.v.n, .string f.v.t], .string r, .bool true]) ∧ Below w.heap.size w w' := by
  have hsd := @setCell_drewN
  unfold cutF at h
  cases hc : cutT s 1 with
  | none => rw [hc] at h; cases h
  | some p =>
    rw [hc] at h
    have h1 := cutT_size (a := p.1) (b := p.2) hc
    obtain ⟨a, b⟩ := p
    cases hv : cutV b with
    | none => simp only [hv] at h; cases h
    | some q =>
      simp only [hv] at h; injection h with h; injection h with h2 h3; subst h2; subst h3
      obtain ⟨v, r⟩ := q
      have HC : Hid _ := hc
      have HV : Hid _ := hv
      clear hc hv
      have hbm : b.size ≤ maxLen := by simp at h1; omega
      clear h1
      go_enter Tryz.func238, Tryz.ntmps238
      go_wp2_with (first | (go_at_call 248; refine (cutText_some s a b 1 _ hs (by omega) (by omega) HC.out).mono ?_; rintro e w' ⟨rfl, q, rfl⟩) | (go_at_call 249; refine (cutValue_some _ r v _ hbm HV.out).mono ?_; rintro e w1 ⟨rfl, hb1⟩; obtain ⟨hc1, hf1⟩ := bcell hb1))
      have g0 : w1.cell? ⟨w.heap.size, 0, none⟩ = some (.string a) := by rw [hc1 _ _ (by simp)]; simp [go_sem]
      have g1 : w1.cell? ⟨w.heap.size, 1, none⟩ = some (.int .i64 0) := by rw [hc1 _ _ (by simp)]; simp [go_sem]
      have g2 : w1.cell? ⟨w.heap.size, 2, none⟩ = some (.int .i64 0) := by rw [hc1 _ _ (by simp)]; simp [go_sem]
      have g3 : w1.cell? ⟨w.heap.size, 3, none⟩ = some (.string em) := by rw [hc1 _ _ (by simp)]; simp [go_sem]
      have hz := hb1.size
      clear hc1 hf1
      refine bodyPost_ret (v := .tuple #[.agg #[.string a, .int .i64 v.k, .int .i64 v.n, .string v.t], .string r, .bool true]) (by simp [results, Tryz.results238, go_sem, isSome_setCell, *]) rfl ⟨rfl, ?_⟩
      have hb0 : Below w.heap.size w w1 := (below_drewN ((Below.refl _ _).alloc (Nat.le_refl _) _) q).trans (hb1.mono (by simp))
      clear hb1
      (repeat (first | (with_reducible exact Below.refl _ _) | (with_reducible assumption) | (with_reducible apply below_drewN) | (with_reducible apply Below.drew) | ((with_reducible refine Below.setCell ?_ ?_ _); rotate_left; focus (first | (simp; done) | (simp; omega) | omega)) | ((with_reducible refine Below.alloc ?_ ?_ _); rotate_left; focus (first | (simp; done) | (simp; omega) | omega))))

end Go.Proofs.YtpfbepbmiillbaaGreatDoor

/- What the specification's cutting of a list's body answers, for every text: the items lie in new memory. -/
namespace Go.Proofs.YtpfbepbmiillbaaGreatDoor
open Go.RowKit
set_option linter.unusedVariables false

theorem infoV : (Tryz.prog.info? 68).map (fun i => (i.zero, i.size, i.bytes)) = some (some (.agg #[.int .i64 0, .int .i64 0, .string em]), 3, 32) := by kernel_rfl
def row (v : Val) : List Value := [.int .i64 v.k, .int .i64 v.n, .string v.t]
def flat (l : List Val) : List Value := l.flatMap row
theorem flat_snoc (l : List Val) (v : Val) : flat (l ++ [v]) = flat l ++ row v := by unfold flat; simp

theorem owns_below {w w' : World} {base : Nat} {e : TypeId} {size : Nat} {v : Value} {n : Nat} {xs : List Value} (h : w.ownsRow base e size v n xs) (hb : Below w.heap.size w w') : w'.ownsRow base e size v n xs := by
  obtain ⟨h1, h2⟩ := h
  refine ⟨h1, ?_⟩
  rcases h2 with h2 | ⟨g, cap, cur, hv, hg, hh, r⟩
  · exact .inl h2
  · refine .inr ⟨g, cap, cur, hv, hg, ?_, r⟩
    have hlt : g < w.heap.size := by
      rcases Nat.lt_or_ge g w.heap.size with h | h
      · exact h
      · rw [Array.getElem?_eq_none h] at hh; cases hh
    rw [hb.block g hlt]; exact hh
theorem owns_block {w : World} {base : Nat} {e : TypeId} {size : Nat} {v : Value} {n : Nat} {xs : List Value} (h : w.ownsRow base e size v n xs) : ∀ k, v.ownBlock = some k → base ≤ k :=
  fun k hk => (h.lt k hk).1

theorem owns_shape {w : World} {base : Nat} {e : TypeId} {size : Nat} {v : Value} {n : Nat} {xs : List Value} (h : w.ownsRow base e size v n xs) (hv : v ≠ .slice none 0 0) : ∃ g cap, v = .slice (some ⟨g, 0, none⟩) n cap := by
  obtain ⟨h1, h2⟩ := h
  rcases h2 with h2 | ⟨g, cap, cur, hv, r⟩
  · exact absurd h2.1 hv
  · exact ⟨g, cap, hv⟩
theorem owns_cell {w : World} {base : Nat} {e : TypeId} {size : Nat} {g n m cap : Nat} {xs : List Value} (h : w.ownsRow base e size (.slice (some ⟨g, 0, none⟩) m cap) n xs) (j : Nat) (u : Value) (hj : xs[j]? = some u) : w.cell? ⟨g, j, none⟩ = some u := by
  have := h.cells (g := g) rfl j u hj
  by_cases h0 : j = 0
  · subst h0; simpa [Addr.add] using this
  · simpa [Addr.add, h0] using this
theorem flat_get : ∀ (l : List Val) (i : Nat) (h : i < l.length), (flat l)[i * 3]? = some (.int .i64 l[i].k) ∧ (flat l)[i * 3 + 1]? = some (.int .i64 l[i].n) ∧ (flat l)[i * 3 + 2]? = some (.string l[i].t)
  | v :: l, 0, _ => ⟨rfl, rfl, rfl⟩
  | v :: l, i + 1, h => by
    have ih := flat_get l i (by simpa using h)
    have e : flat (v :: l) = row v ++ flat l := by unfold flat; simp
    rw [e, show (i + 1) * 3 = i * 3 + 3 by omega]
    have hl : (row v).length = 3 := rfl
    refine ⟨?_, ?_, ?_⟩
    · rw [List.getElem?_append_right (by omega), hl]; simpa using ih.1
    · rw [List.getElem?_append_right (by omega), hl, show i * 3 + 3 + 1 - 3 = i * 3 + 1 by omega]; simpa using ih.2.1
    · rw [List.getElem?_append_right (by omega), hl, show i * 3 + 3 + 2 - 3 = i * 3 + 2 by omega]; simpa using ih.2.2

set_option maxRecDepth 4000 in
set_option maxHeartbeats 1000000 in
theorem l01Items_any (body : ByteArray) (w : World) (hs : body.size ≤ 1048576) :
    Calls Tryz.prog 218 #[.string body] w fun e w' => (∃ g n cap, e = .returned (.tuple #[.slice (some ⟨g, 0, none⟩) n cap, .bool (items body).isSome]) ∧ ∀ l, items body = some l → n = l.length ∧ w'.ownsRow w.heap.size 68 3 (.slice (some ⟨g, 0, none⟩) l.length cap) l.length (flat l)) ∧ Below w.heap.size w w' := by
  have hm : body.size ≤ maxLen := by unfold maxLen; omega
  obtain ⟨i0, hi, hz0, hz1, hz2⟩ := info_parts infoV
  obtain ⟨R, hR⟩ : ∃ R, R = items body := ⟨_, rfl⟩
  rw [← hR]
  have HR : Hid _ := hR
  clear hR
  go_enter Tryz.func218, Tryz.ntmps218
  go_wp2_with fail
  go_loopw [0, 4] (fun u v wr => ∃ (b : ByteArray) (l : List Val), u = .string b ∧ l.length + b.size ≤ body.size ∧ R = (items b).map (l ++ ·) ∧ wr.ownsRow w.heap.size 68 3 v l.length (flat l) ∧ v ≠ .slice none 0 0 ∧ Below w.heap.size w wr) (fun u _ _ => strSize u)
  case atStart => exact ⟨body, [], rfl, by simp, by rw [HR.out]; cases items body <;> simp, World.ownsRow_made w #[] 0 (Nat.le_refl _) (by unfold maxLen; omega) rfl, by simp, (Below.refl _ _).alloc (Nat.le_refl _) _⟩
  case round =>
    obtain ⟨b, l, rfl, hb, hr, hown, hnn, hbel⟩ := hrel
    have HN : Hid _ := hnn
    clear hnn
    have hR : Hid _ := hr
    have hsz0 := hbel.size
    clear hr
    by_cases hz : b.size = 0
    · have hz' : ¬ (0 : Int) < (b.size : Int) := by omega
      go_wp2_with fail
      go_ret2
      have hl : R = some l := by rw [hR.out, items_nil hz]; simp
      obtain ⟨g, cap, hv⟩ := owns_shape hown HN.out
      subst hv
      refine ⟨⟨g, _, cap, by rw [hl]; rfl, ?_⟩, hbel⟩
      intro l' hl'
      rw [hl] at hl'; injection hl' with hl'; subst hl'
      exact ⟨rfl, hown⟩
    · have hbm : b.size ≤ maxLen := by unfold maxLen; omega
      cases hc : cutV b with
      | none =>
        have HC : Hid _ := hc
        clear hc
        go_wp2_with (go_at_call 219; refine (l01Next_none _ _ hbm HC.out).mono ?_; rintro e w1 ⟨rfl, hb1⟩)
        go_ret2
        have hl : R = none := by rw [hR.out, items_none hz HC.out]; rfl
        have hz1 := hb1.size
        have hb0 : Below w.heap.size w w1 := hbel.trans (hb1.mono hbel.size)
        refine ⟨⟨_, _, _, by rw [hl]; rfl, ?_⟩, ?_⟩
        · intro l' hl'; rw [hl] at hl'; cases hl'
        · clear hb1
          (repeat (first | (with_reducible exact Below.refl _ _) | (with_reducible assumption) | (with_reducible apply below_drewN) | (with_reducible apply Below.drew) | ((with_reducible refine Below.setCell ?_ ?_ _); rotate_left; focus (first | (simp; done) | (simp; omega) | omega)) | ((with_reducible refine Below.alloc ?_ ?_ _); rotate_left; focus (first | (simp; done) | (simp; omega) | omega))))
      | some p =>
        obtain ⟨v, r⟩ := p
        have HC : Hid _ := hc
        have hsz := cutV_size hc
        clear hc
        go_wp2_with (first | (go_at_call 219; refine (l01Next_some _ r v _ hbm HC.out).mono ?_; rintro e w1 ⟨rfl, hb1⟩; have hown1 := owns_below hown hb1) | (at_builtin; refine wpList_append_own _ rfl (.tmp 21) (.tmp 23) 45 rfl w.heap.size 68 i0 (.agg #[.int .i64 0, .int .i64 0, .string em]) 3 32 Tryz.underlying45 hi hz0 hz1 hz2 rfl (by decide) _ _ _ rfl ((hown1.alloc _).alloc _) ⟨w1.heap.size + 1, 0, none⟩ 1 1 (row v) rfl rfl ?c1 ?c2 ?c3 ?c4 ?c5 ?_))
        case c1 =>
          intro j u hj
          match j, hj with
          | 0, hj => simp [row] at hj; subst hj; simp [Addr.add, go_sem]
          | 1, hj => simp [row] at hj; subst hj; simp [Addr.add, go_sem]
          | 2, hj => simp [row] at hj; subst hj; simp [Addr.add, go_sem]
          | j + 3, hj => simp [row] at hj
        case c2 => intro u hu; simp [row] at hu; rcases hu with rfl | rfl | rfl <;> rfl
        case c3 => unfold maxLen; omega
        case c4 => omega
        case c5 => have := hb1.size; simp; omega
        intro v' w2 hown2 hgrow hnv
        have HV : Hid _ := hnv
        clear hnv
        have hz1 := hb1.size
        have hb0 : Below w.heap.size w w1 := hbel.trans (hb1.mono hbel.size)
        have hbl := owns_block hown
        have hb2 : Below w.heap.size w w2 := Below.grown ((hb0.alloc (by omega) _).alloc (by simp; omega) _) hgrow (by simp; omega) hbl
        clear hgrow hown1 hb1 hb0 hbl hown hbel
        go_wp2_with fail
        go_roundw
        case rel => exact ⟨r, l ++ [v], rfl, by simp; omega, by rw [hR.out, items_cons HC.out]; cases items r <;> simp, by rw [flat_snoc, List.length_append]; exact hown2, HV.out, hb2⟩
        case measure => simp [strSize_eq]; omega

end Go.Proofs.YtpfbepbmiillbaaGreatDoor
