/- What the program's test of a value answers, for every value and every depth. -/
import Derived.Test.YtcggkeleaepebaaGreatDoorCutVA
import Derived.Test.YtcggkeleaepebaaGreatDoorCutVB
import Derived.Test.YtcggkeleaepebaaGreatDoorFits
namespace Go.Proofs.YtcggkeleaepebaaGreatDoor
open Go.RowKit
set_option linter.unusedVariables false

theorem bcell {W w1 : World} (hb : Below W.heap.size W w1) : (∀ b o, b < W.heap.size → w1.cell? ⟨b, o, none⟩ = W.cell? ⟨b, o, none⟩) ∧ (∀ b o, b < W.heap.size → w1.frozen? ⟨b, o, none⟩ = W.frozen? ⟨b, o, none⟩) :=
  ⟨fun b o h => hb.cell (p := ⟨b, o, none⟩) h, fun b o h => hb.frozen (p := ⟨b, o, none⟩) h⟩

set_option maxHeartbeats 400000 in
theorem shortNameOK_any (s : ByteArray) (w : World) (hs : s.size ≤ maxLen) :
    Calls Tryz.prog 118 #[.string s] w fun e w' => e = .returned (.bool (shortB s)) ∧ w' = w := by
  by_cases h : s.size ≤ 12
  · have e : shortB s = nameB s := by unfold shortB; simp [h]
    rw [e]; clear e
    go_enter Tryz.func118, Tryz.ntmps118
    go_wp2_with (go_at_call 134; refine (nameOK_any _ _ hs).mono ?_; rintro e w' ⟨rfl, rfl⟩)
    go_ret
    exact ⟨rfl, rfl⟩
  · have e : shortB s = false := by unfold shortB; simp [h]
    rw [e]; clear e
    go_enter Tryz.func118, Tryz.ntmps118
    go_wp2_with fail
    go_ret
    exact ⟨rfl, rfl⟩

/-- The test of a value at one depth, as its callers take it. -/
def FitsAt (d : Nat) : Prop := ∀ (k n : Int) (t : ByteArray) (w : World), t.size ≤ maxLen →
    Calls Tryz.prog 183 #[.agg #[.int .i64 k, .int .i64 n, .string t], .int .i64 d] w fun e w' => e = .returned (.bool (fits d ⟨k, n, t⟩)) ∧ Below w.heap.size w w'

set_option maxHeartbeats 1000000 in
theorem listFits_of (d : Nat) (hd5 : d ≤ 5) (ih : FitsAt d) (body : ByteArray) (w : World) (hs : body.size ≤ maxLen) :
    Calls Tryz.prog 201 #[.string body, .int .i64 d] w fun e w' => e = .returned (.bool (itemsAll (fits d) (items body))) ∧ Below w.heap.size w w' := by
  have hs' := hs
  unfold maxLen at hs'
  obtain ⟨R, hR⟩ : ∃ R, R = itemsAll (fits d) (items body) := ⟨_, rfl⟩
  rw [← hR]
  have HR : Hid _ := hR
  clear hR
  go_enter Tryz.func201, Tryz.ntmps201
  go_wp2_with fail
  go_loopw [0] (fun v wr => ∃ b : ByteArray, v = .string b ∧ b.size ≤ body.size ∧ R = itemsAll (fits d) (items b) ∧ Below w.heap.size w wr) (fun v _ => strSize v)
  case atStart => exact ⟨body, rfl, Nat.le_refl _, HR.out, Below.refl _ _⟩
  case round =>
    obtain ⟨b, rfl, hb, hr, hbel⟩ := hrel
    have hR : Hid _ := hr
    clear hr
    by_cases hz : b.size = 0
    · obtain rfl := empty_of b hz
      go_wp2_with fail
      go_ret
      refine ⟨ret_bool ?_, hbel⟩
      rw [hR.out, items_nil hz]; rfl
    · have hne := ne_of b (by omega)
      have hbm : b.size ≤ maxLen := Nat.le_trans hb hs
      cases hc : cutV b with
      | none =>
        have HC : Hid _ := hc
        clear hc
        go_wp2_with (go_at_call 185; refine (cutValue_none _ _ hbm HC.out).mono ?_; rintro e w1 ⟨⟨k1, n1, t1, r1, rfl⟩, hb1⟩)
        go_ret
        refine ⟨ret_bool ?_, ?_⟩
        · rw [hR.out, items_none hz HC.out]; rfl
        · exact (hbel.trans (hb1.mono hbel.size)).alloc (Nat.le_trans hbel.size hb1.size) _
      | some p =>
        obtain ⟨v, r⟩ := p
        have HC : Hid _ := hc
        have hsz := cutV_size hc
        clear hc
        have hv : v.t.size ≤ maxLen := by omega
        cases hf : fits d v
        · go_wp2_with (first | (go_at_call 185; refine (cutValue_some _ r v _ hbm HC.out).mono ?_; rintro e w1 ⟨rfl, hb1⟩) | (go_at_call 183; refine (ih v.k v.n v.t _ hv).mono ?_; rintro e w2 ⟨rfl, hb2⟩))
          go_ret
          refine ⟨ret_bool ?_, ?_⟩
          · rw [hR.out, itemsAll_cons HC.out, hf]; rfl
          · exact ((hbel.trans (hb1.mono hbel.size)).alloc (Nat.le_trans hbel.size hb1.size) _).trans (hb2.mono (by have := hbel.size; have := hb1.size; simp; omega))
        · go_wp2_with (first | (go_at_call 185; refine (cutValue_some _ r v _ hbm HC.out).mono ?_; rintro e w1 ⟨rfl, hb1⟩) | (go_at_call 183; refine (ih v.k v.n v.t _ hv).mono ?_; rintro e w2 ⟨rfl, hb2⟩))
          go_roundw
          case rel => exact ⟨r, rfl, by omega, by rw [hR.out, itemsAll_cons HC.out, hf]; rfl, ((hbel.trans (hb1.mono hbel.size)).alloc (Nat.le_trans hbel.size hb1.size) _).trans (hb2.mono (by have := hbel.size; have := hb1.size; simp; omega))⟩
          case measure => simp [strSize_eq]; omega

set_option maxHeartbeats 1000000 in
theorem cutField_some (s r : ByteArray) (f : Fld) (w : World) (hs : s.size ≤ maxLen) (h : cutF s = some (f, r)) :
    Calls Tryz.prog 170 #[.string s] w fun e w' => e = .returned (.tuple #[.agg #[.string f.name, .int .i64 f.v.k, .int .i64 f.v.n, .string f.v.t], .string r, .bool true]) ∧ Below w.heap.size w w' := by
  have hsd := @setCell_drewN
  unfold cutF at h
  cases hc : cutT s 1 with
  | none => rw [hc] at h; cases h
  | some p =>
    rw [hc] at h
    have h1 := cutT_size (a := p.1) (b := p.2) hc
    obtain ⟨a, b⟩ := p
    cases hv : cutV b with
    | none => simp only [hv] at h; cases h
    | some q =>
      simp only [hv] at h; injection h with h; injection h with h2 h3; subst h2; subst h3
      obtain ⟨v, r⟩ := q
      have HC : Hid _ := hc
      have HV : Hid _ := hv
      clear hc hv
      have hbm : b.size ≤ maxLen := by simp at h1; omega
      clear h1
      go_enter Tryz.func170, Tryz.ntmps170
      go_wp2_with (first | (go_at_call 184; refine (cutText_some s a b 1 _ hs (by omega) (by omega) HC.out).mono ?_; rintro e w' ⟨rfl, q, rfl⟩) | (go_at_call 185; refine (cutValue_some _ r v _ hbm HV.out).mono ?_; rintro e w1 ⟨rfl, hb1⟩; obtain ⟨hc1, hf1⟩ := bcell hb1))
      have g0 : w1.cell? ⟨w.heap.size, 0, none⟩ = some (.string a) := by rw [hc1 _ _ (by simp)]; simp [go_sem]
      have g1 : w1.cell? ⟨w.heap.size, 1, none⟩ = some (.int .i64 0) := by rw [hc1 _ _ (by simp)]; simp [go_sem]
      have g2 : w1.cell? ⟨w.heap.size, 2, none⟩ = some (.int .i64 0) := by rw [hc1 _ _ (by simp)]; simp [go_sem]
      have g3 : w1.cell? ⟨w.heap.size, 3, none⟩ = some (.string em) := by rw [hc1 _ _ (by simp)]; simp [go_sem]
      have hz := hb1.size
      clear hc1 hf1
      refine bodyPost_ret (v := .tuple #[.agg #[.string a, .int .i64 v.k, .int .i64 v.n, .string v.t], .string r, .bool true]) (by simp [results, Tryz.results170, go_sem, isSome_setCell, *]) rfl ⟨rfl, ?_⟩
      have hb0 : Below w.heap.size w w1 := (below_drewN ((Below.refl _ _).alloc (Nat.le_refl _) _) q).trans (hb1.mono (by simp))
      clear hb1
      (repeat (first | (with_reducible exact Below.refl _ _) | (with_reducible assumption) | (with_reducible apply below_drewN) | (with_reducible apply Below.drew) | ((with_reducible refine Below.setCell ?_ ?_ _); rotate_left; focus (first | (simp; done) | (simp; omega) | omega)) | ((with_reducible refine Below.alloc ?_ ?_ _); rotate_left; focus (first | (simp; done) | (simp; omega) | omega))))

end Go.Proofs.YtcggkeleaepebaaGreatDoor
