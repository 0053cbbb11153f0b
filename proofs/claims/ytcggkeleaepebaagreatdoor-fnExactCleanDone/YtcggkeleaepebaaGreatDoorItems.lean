/- What the specification's cutting of a list's body answers, for every text: the items lie in new memory. -/
import Derived.Test.YtcggkeleaepebaaGreatDoorNext
import Derived.Test.YtcggkeleaepebaaGreatDoorFitsW
namespace Go.Proofs.YtcggkeleaepebaaGreatDoor
open Go.RowKit
set_option linter.unusedVariables false

theorem infoV : (Tryz.prog.info? 82).map (fun i => (i.zero, i.size, i.bytes)) = some (some (.agg #[.int .i64 0, .int .i64 0, .string em]), 3, 32) := by kernel_rfl
def row (v : Val) : List Value := [.int .i64 v.k, .int .i64 v.n, .string v.t]
def flat (l : List Val) : List Value := l.flatMap row
theorem flat_snoc (l : List Val) (v : Val) : flat (l ++ [v]) = flat l ++ row v := by unfold flat; simp

theorem owns_below {w w' : World} {base : Nat} {e : TypeId} {size : Nat} {v : Value} {n : Nat} {xs : List Value} (h : w.ownsRow base e size v n xs) (hb : Below w.heap.size w w') : w'.ownsRow base e size v n xs := by
  obtain ⟨h1, h2⟩ := h
  refine ⟨h1, ?_⟩
  rcases h2 with h2 | ⟨g, cap, cur, hv, hg, hh, r⟩
  · exact .inl h2
  · refine .inr ⟨g, cap, cur, hv, hg, ?_, r⟩
    have hlt : g < w.heap.size := by
      rcases Nat.lt_or_ge g w.heap.size with h | h
      · exact h
      · rw [Array.getElem?_eq_none h] at hh; cases hh
    rw [hb.block g hlt]; exact hh
theorem owns_block {w : World} {base : Nat} {e : TypeId} {size : Nat} {v : Value} {n : Nat} {xs : List Value} (h : w.ownsRow base e size v n xs) : ∀ k, v.ownBlock = some k → base ≤ k :=
  fun k hk => (h.lt k hk).1

theorem owns_shape {w : World} {base : Nat} {e : TypeId} {size : Nat} {v : Value} {n : Nat} {xs : List Value} (h : w.ownsRow base e size v n xs) (hv : v ≠ .slice none 0 0) : ∃ g cap, v = .slice (some ⟨g, 0, none⟩) n cap := by
  obtain ⟨h1, h2⟩ := h
  rcases h2 with h2 | ⟨g, cap, cur, hv, r⟩
  · exact absurd h2.1 hv
  · exact ⟨g, cap, hv⟩
theorem owns_cell {w : World} {base : Nat} {e : TypeId} {size : Nat} {g n m cap : Nat} {xs : List Value} (h : w.ownsRow base e size (.slice (some ⟨g, 0, none⟩) m cap) n xs) (j : Nat) (u : Value) (hj : xs[j]? = some u) : w.cell? ⟨g, j, none⟩ = some u := by
  have := h.cells (g := g) rfl j u hj
  by_cases h0 : j = 0
  · subst h0; simpa [Addr.add] using this
  · simpa [Addr.add, h0] using this
theorem flat_get : ∀ (l : List Val) (i : Nat) (h : i < l.length), (flat l)[i * 3]? = some (.int .i64 l[i].k) ∧ (flat l)[i * 3 + 1]? = some (.int .i64 l[i].n) ∧ (flat l)[i * 3 + 2]? = some (.string l[i].t)
  | v :: l, 0, _ => ⟨rfl, rfl, rfl⟩
  | v :: l, i + 1, h => by
    have ih := flat_get l i (by simpa using h)
    have e : flat (v :: l) = row v ++ flat l := by unfold flat; simp
    rw [e, show (i + 1) * 3 = i * 3 + 3 by omega]
    have hl : (row v).length = 3 := rfl
    refine ⟨?_, ?_, ?_⟩
    · rw [List.getElem?_append_right (by omega), hl]; simpa using ih.1
    · rw [List.getElem?_append_right (by omega), hl, show i * 3 + 3 + 1 - 3 = i * 3 + 1 by omega]; simpa using ih.2.1
    · rw [List.getElem?_append_right (by omega), hl, show i * 3 + 3 + 2 - 3 = i * 3 + 2 by omega]; simpa using ih.2.2

set_option maxRecDepth 4000 in
set_option maxHeartbeats 1000000 in
theorem l01Items_any (body : ByteArray) (w : World) (hs : body.size ≤ 1048576) :
    Calls Tryz.prog 163 #[.string body] w fun e w' => (∃ g n cap, e = .returned (.tuple #[.slice (some ⟨g, 0, none⟩) n cap, .bool (items body).isSome]) ∧ ∀ l, items body = some l → n = l.length ∧ w'.ownsRow w.heap.size 82 3 (.slice (some ⟨g, 0, none⟩) l.length cap) l.length (flat l)) ∧ Below w.heap.size w w' := by
  have hm : body.size ≤ maxLen := by unfold maxLen; omega
  obtain ⟨i0, hi, hz0, hz1, hz2⟩ := info_parts infoV
  obtain ⟨R, hR⟩ : ∃ R, R = items body := ⟨_, rfl⟩
  rw [← hR]
  have HR : Hid _ := hR
  clear hR
  go_enter Tryz.func163, Tryz.ntmps163
  go_wp2_with fail
  go_loopw [0, 4] (fun u v wr => ∃ (b : ByteArray) (l : List Val), u = .string b ∧ l.length + b.size ≤ body.size ∧ R = (items b).map (l ++ ·) ∧ wr.ownsRow w.heap.size 82 3 v l.length (flat l) ∧ v ≠ .slice none 0 0 ∧ Below w.heap.size w wr) (fun u _ _ => strSize u)
  case atStart => exact ⟨body, [], rfl, by simp, by rw [HR.out]; cases items body <;> simp, World.ownsRow_made w #[] 0 (Nat.le_refl _) (by unfold maxLen; omega) rfl, by simp, (Below.refl _ _).alloc (Nat.le_refl _) _⟩
  case round =>
    obtain ⟨b, l, rfl, hb, hr, hown, hnn, hbel⟩ := hrel
    have HN : Hid _ := hnn
    clear hnn
    have hR : Hid _ := hr
    have hsz0 := hbel.size
    clear hr
    by_cases hz : b.size = 0
    · have hz' : ¬ (0 : Int) < (b.size : Int) := by omega
      go_wp2_with fail
      go_ret2
      have hl : R = some l := by rw [hR.out, items_nil hz]; simp
      obtain ⟨g, cap, hv⟩ := owns_shape hown HN.out
      subst hv
      refine ⟨⟨g, _, cap, by rw [hl]; rfl, ?_⟩, hbel⟩
      intro l' hl'
      rw [hl] at hl'; injection hl' with hl'; subst hl'
      exact ⟨rfl, hown⟩
    · have hbm : b.size ≤ maxLen := by unfold maxLen; omega
      cases hc : cutV b with
      | none =>
        have HC : Hid _ := hc
        clear hc
        go_wp2_with (go_at_call 164; refine (l01Next_none _ _ hbm HC.out).mono ?_; rintro e w1 ⟨rfl, hb1⟩)
        go_ret2
        have hl : R = none := by rw [hR.out, items_none hz HC.out]; rfl
        have hz1 := hb1.size
        have hb0 : Below w.heap.size w w1 := hbel.trans (hb1.mono hbel.size)
        refine ⟨⟨_, _, _, by rw [hl]; rfl, ?_⟩, ?_⟩
        · intro l' hl'; rw [hl] at hl'; cases hl'
        · clear hb1
          (repeat (first | (with_reducible exact Below.refl _ _) | (with_reducible assumption) | (with_reducible apply below_drewN) | (with_reducible apply Below.drew) | ((with_reducible refine Below.setCell ?_ ?_ _); rotate_left; focus (first | (simp; done) | (simp; omega) | omega)) | ((with_reducible refine Below.alloc ?_ ?_ _); rotate_left; focus (first | (simp; done) | (simp; omega) | omega))))
      | some p =>
        obtain ⟨v, r⟩ := p
        have HC : Hid _ := hc
        have hsz := cutV_size hc
        clear hc
        go_wp2_with (first | (go_at_call 164; refine (l01Next_some _ r v _ hbm HC.out).mono ?_; rintro e w1 ⟨rfl, hb1⟩; have hown1 := owns_below hown hb1) | (at_builtin; refine wpList_append_own _ rfl (.tmp 21) (.tmp 23) 181 rfl w.heap.size 82 i0 (.agg #[.int .i64 0, .int .i64 0, .string em]) 3 32 Tryz.underlying181 hi hz0 hz1 hz2 rfl (by decide) _ _ _ rfl ((hown1.alloc _).alloc _) ⟨w1.heap.size + 1, 0, none⟩ 1 1 (row v) rfl rfl ?c1 ?c2 ?c3 ?c4 ?c5 ?_))
        case c1 =>
          intro j u hj
          match j, hj with
          | 0, hj => simp [row] at hj; subst hj; simp [Addr.add, go_sem]
          | 1, hj => simp [row] at hj; subst hj; simp [Addr.add, go_sem]
          | 2, hj => simp [row] at hj; subst hj; simp [Addr.add, go_sem]
          | j + 3, hj => simp [row] at hj
        case c2 => intro u hu; simp [row] at hu; rcases hu with rfl | rfl | rfl <;> rfl
        case c3 => unfold maxLen; omega
        case c4 => omega
        case c5 => have := hb1.size; simp; omega
        intro v' w2 hown2 hgrow hnv
        have HV : Hid _ := hnv
        clear hnv
        have hz1 := hb1.size
        have hb0 : Below w.heap.size w w1 := hbel.trans (hb1.mono hbel.size)
        have hbl := owns_block hown
        have hb2 : Below w.heap.size w w2 := Below.grown ((hb0.alloc (by omega) _).alloc (by simp; omega) _) hgrow (by simp; omega) hbl
        clear hgrow hown1 hb1 hb0 hbl hown hbel
        go_wp2_with fail
        go_roundw
        case rel => exact ⟨r, l ++ [v], rfl, by simp; omega, by rw [hR.out, items_cons HC.out]; cases items r <;> simp, by rw [flat_snoc, List.length_append]; exact hown2, HV.out, hb2⟩
        case measure => simp [strSize_eq]; omega

end Go.Proofs.YtcggkeleaepebaaGreatDoor
