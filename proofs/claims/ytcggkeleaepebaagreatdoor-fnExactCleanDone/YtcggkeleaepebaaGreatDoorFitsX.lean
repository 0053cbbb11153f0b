/- What the program's test of a value answers, for every value and every depth: documents, and the whole. -/
import Derived.Test.YtcggkeleaepebaaGreatDoorFitsW
namespace Go.Proofs.YtcggkeleaepebaaGreatDoor
open Go.RowKit
set_option linter.unusedVariables false

set_option maxHeartbeats 1000000 in
theorem cutField_none (s : ByteArray) (w : World) (hs : s.size ≤ maxLen) (h : cutF s = none) :
    Calls Tryz.prog 170 #[.string s] w fun e w' => (∃ (m : ByteArray) (k n : Int) (t r : ByteArray), e = .returned (.tuple #[.agg #[.string m, .int .i64 k, .int .i64 n, .string t], .string r, .bool false])) ∧ Below w.heap.size w w' := by
  have hsd := @setCell_drewN
  unfold cutF at h
  cases hc : cutT s 1 with
  | none =>
    have HC : Hid _ := hc
    clear hc h
    go_enter Tryz.func170, Tryz.ntmps170
    go_wp2_with (go_at_call 184; refine (cutText_none s 1 _ hs (by omega) (by omega) HC.out).mono ?_; rintro e w' ⟨rfl, q, rfl⟩)
    exact bodyPost_ret (v := .tuple #[.agg #[.string em, .int .i64 0, .int .i64 0, .string em], .string em, .bool false]) (by simp [results, Tryz.results170, go_sem]) rfl ⟨⟨_, _, _, _, _, rfl⟩, by (repeat (first | (with_reducible exact Below.refl _ _) | (with_reducible assumption) | (with_reducible apply below_drewN) | (with_reducible apply Below.drew) | ((with_reducible refine Below.setCell ?_ ?_ _); rotate_left; focus (first | (simp; done) | (simp; omega) | omega)) | ((with_reducible refine Below.alloc ?_ ?_ _); rotate_left; focus (first | (simp; done) | (simp; omega) | omega))))⟩
  | some p =>
    rw [hc] at h
    have h1 := cutT_size (a := p.1) (b := p.2) hc
    obtain ⟨a, b⟩ := p
    cases hv : cutV b with
    | some q => simp only [hv] at h; cases h
    | none =>
      have HC : Hid _ := hc
      have HV : Hid _ := hv
      clear hc hv h
      have hbm : b.size ≤ maxLen := by simp at h1; omega
      clear h1
      go_enter Tryz.func170, Tryz.ntmps170
      go_wp2_with (first | (go_at_call 184; refine (cutText_some s a b 1 _ hs (by omega) (by omega) HC.out).mono ?_; rintro e w' ⟨rfl, q, rfl⟩) | (go_at_call 185; refine (cutValue_none _ _ hbm HV.out).mono ?_; rintro e w1 ⟨⟨k1, n1, t1, r1, rfl⟩, hb1⟩; obtain ⟨hc1, hf1⟩ := bcell hb1))
      have g0 : w1.cell? ⟨w.heap.size, 0, none⟩ = some (.string a) := by rw [hc1 _ _ (by simp)]; simp [go_sem]
      have g1 : w1.cell? ⟨w.heap.size, 1, none⟩ = some (.int .i64 0) := by rw [hc1 _ _ (by simp)]; simp [go_sem]
      have g2 : w1.cell? ⟨w.heap.size, 2, none⟩ = some (.int .i64 0) := by rw [hc1 _ _ (by simp)]; simp [go_sem]
      have g3 : w1.cell? ⟨w.heap.size, 3, none⟩ = some (.string em) := by rw [hc1 _ _ (by simp)]; simp [go_sem]
      have hz := hb1.size
      clear hc1 hf1
      refine bodyPost_ret (v := .tuple #[.agg #[.string a, .int .i64 k1, .int .i64 n1, .string t1], .string r1, .bool false]) (by simp [results, Tryz.results170, go_sem, isSome_setCell, *]) rfl ⟨⟨_, _, _, _, _, rfl⟩, ?_⟩
      have hb0 : Below w.heap.size w w1 := (below_drewN ((Below.refl _ _).alloc (Nat.le_refl _) _) q).trans (hb1.mono (by simp))
      clear hb1
      (repeat (first | (with_reducible exact Below.refl _ _) | (with_reducible assumption) | (with_reducible apply below_drewN) | (with_reducible apply Below.drew) | ((with_reducible refine Below.setCell ?_ ?_ _); rotate_left; focus (first | (simp; done) | (simp; omega) | omega)) | ((with_reducible refine Below.alloc ?_ ?_ _); rotate_left; focus (first | (simp; done) | (simp; omega) | omega))))

set_option maxHeartbeats 2000000 in
theorem docFits_of (d : Nat) (hd5 : d ≤ 5) (ih : FitsAt d) (body : ByteArray) (w : World) (hs : body.size ≤ maxLen) :
    Calls Tryz.prog 202 #[.string body, .int .i64 d] w fun e w' => e = .returned (.bool (fieldsAll (fits d) em (fields body))) ∧ Below w.heap.size w w' := by
  have hs' := hs
  unfold maxLen at hs'
  obtain ⟨R, hR⟩ : ∃ R, R = fieldsAll (fits d) em (fields body) := ⟨_, rfl⟩
  rw [← hR]
  have HR : Hid _ := hR
  clear hR
  go_enter Tryz.func202, Tryz.ntmps202
  go_wp2_with fail
  go_loopw [0, 5] (fun v l wr => ∃ b m : ByteArray, v = .string b ∧ l = .string m ∧ b.size ≤ body.size ∧ R = fieldsAll (fits d) m (fields b) ∧ Below w.heap.size w wr) (fun v _ _ => strSize v)
  case atStart => exact ⟨body, em, rfl, rfl, Nat.le_refl _, HR.out, Below.refl _ _⟩
  case round =>
    obtain ⟨b, m, rfl, rfl, hb, hr, hbel⟩ := hrel
    have hR : Hid _ := hr
    clear hr
    by_cases hz : b.size = 0
    · obtain rfl := empty_of b hz
      go_wp2_with fail
      go_ret
      refine ⟨ret_bool ?_, hbel⟩
      rw [hR.out, fields_nil hz]; rfl
    · have hne := ne_of b (by omega)
      have hbm : b.size ≤ maxLen := Nat.le_trans hb hs
      cases hc : cutF b with
      | none =>
        have HC : Hid _ := hc
        clear hc
        go_wp2_with (go_at_call 170; refine (cutField_none _ _ hbm HC.out).mono ?_; rintro e w1 ⟨⟨m1, k1, n1, t1, r1, rfl⟩, hb1⟩)
        go_ret
        refine ⟨ret_bool ?_, ?_⟩
        · rw [hR.out, fields_none hz HC.out]; rfl
        · exact (hbel.trans (hb1.mono hbel.size)).alloc (Nat.le_trans hbel.size hb1.size) _
      | some p =>
        obtain ⟨f, r⟩ := p
        have HC : Hid _ := hc
        have hsz := cutF_size hc
        clear hc
        have hv : f.v.t.size ≤ maxLen := by omega
        have hm : f.name.size ≤ maxLen := by omega
        have HA0 := fieldsAll_cons (p := fits d) (last := m) HC.out
        rw [← hR.out] at HA0
        have HA : Hid _ := HA0
        clear HA0
        have HL := leB_not f.name m
        cases hsh : shortB f.name
        · clear HL
          go_wp2_with (first | (go_at_call 170; refine (cutField_some _ r f _ hbm HC.out).mono ?_; rintro e w1 ⟨rfl, hb1⟩) | (go_at_call 118; refine (shortNameOK_any _ _ hm).mono ?_; rintro e w2 ⟨rfl, rfl⟩))
          go_ret
          refine ⟨ret_bool ?_, ?_⟩
          · rw [HA.out, hsh]; rfl
          · exact ((hbel.trans (hb1.mono hbel.size)).alloc (Nat.le_trans hbel.size hb1.size) _)
        · cases hlt : ltB m f.name
          · rw [hlt] at HL
            go_wp2_with (first | (go_at_call 170; refine (cutField_some _ r f _ hbm HC.out).mono ?_; rintro e w1 ⟨rfl, hb1⟩) | (go_at_call 118; refine (shortNameOK_any _ _ hm).mono ?_; rintro e w2 ⟨rfl, rfl⟩))
            go_ret
            refine ⟨ret_bool ?_, ?_⟩
            · rw [HA.out, hlt]; simp
            · exact ((hbel.trans (hb1.mono hbel.size)).alloc (Nat.le_trans hbel.size hb1.size) _)
          · rw [hlt] at HL
            cases hf : fits d f.v
            · go_wp2_with (first | (go_at_call 170; refine (cutField_some _ r f _ hbm HC.out).mono ?_; rintro e w1 ⟨rfl, hb1⟩) | (go_at_call 118; refine (shortNameOK_any _ _ hm).mono ?_; rintro e w2 ⟨rfl, rfl⟩) | (go_at_call 183; refine (ih f.v.k f.v.n f.v.t _ hv).mono ?_; rintro e w2 ⟨rfl, hb2⟩; obtain ⟨hc2, hf2⟩ := bcell hb2))
              go_ret
              refine ⟨ret_bool ?_, ?_⟩
              · rw [HA.out, hf]; simp
              · exact ((hbel.trans (hb1.mono hbel.size)).alloc (Nat.le_trans hbel.size hb1.size) _).trans (hb2.mono (by have := hbel.size; have := hb1.size; simp; omega))
            · go_wp2_with (first | (go_at_call 170; refine (cutField_some _ r f _ hbm HC.out).mono ?_; rintro e w1 ⟨rfl, hb1⟩) | (go_at_call 118; refine (shortNameOK_any _ _ hm).mono ?_; rintro e w2 ⟨rfl, rfl⟩) | (go_at_call 183; refine (ih f.v.k f.v.n f.v.t _ hv).mono ?_; rintro e w2 ⟨rfl, hb2⟩; obtain ⟨hc2, hf2⟩ := bcell hb2))
              go_roundw
              case rel => exact ⟨r, f.name, rfl, rfl, by omega, by rw [HA.out, hsh, hlt, hf]; rfl, ((hbel.trans (hb1.mono hbel.size)).alloc (Nat.le_trans hbel.size hb1.size) _).trans (hb2.mono (by have := hbel.size; have := hb1.size; simp; omega))⟩
              case measure => simp [strSize_eq]; omega

end Go.Proofs.YtcggkeleaepebaaGreatDoor
