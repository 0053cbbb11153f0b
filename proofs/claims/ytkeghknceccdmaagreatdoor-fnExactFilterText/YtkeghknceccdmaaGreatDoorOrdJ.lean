/- What the program's comparing of rows of values and of fields answers. -/
import Derived.Test.YtkeghknceccdmaaGreatDoorOrdI
namespace Go.Proofs.YtkeghknceccdmaaGreatDoor
open Go.RowKit
set_option linter.unusedVariables false

def compareAt (d : Nat) : Prop := ∀ (a b : Val) (w : World), a.t.size ≤ 1048576 → b.t.size ≤ 1048576 → fits d a = true → fits d b = true →
    Calls Tryz.prog 202 #[.agg #[.int .i64 a.k, .int .i64 a.n, .string a.t], .agg #[.int .i64 b.k, .int .i64 b.n, .string b.t]] w fun e w' => e = .returned (.int .i64 (ordV d a b)) ∧ Below w.heap.size w w'
/-- A row of values, a nil one too. -/
def RowV (w : World) (p : Option Addr) (l : List Val) : Prop := l = [] ∨ ∃ g, p = some ⟨g, 0, none⟩ ∧ ReadV w g l
theorem RowV.next {w w' : World} {p : Option Addr} {l : List Val} (h : RowV w p l) (hb : Below w.heap.size w w') : RowV w' p l := by
  rcases h with h | ⟨g, hp, hr⟩
  · exact .inl h
  · exact .inr ⟨g, hp, hr.next hb⟩
def RowF (w : World) (p : Option Addr) (l : List Fld) : Prop := l = [] ∨ ∃ g, p = some ⟨g, 0, none⟩ ∧ ReadF w g l
theorem RowF.next {w w' : World} {p : Option Addr} {l : List Fld} (h : RowF w p l) (hb : Below w.heap.size w w') : RowF w' p l := by
  rcases h with h | ⟨g, hp, hr⟩
  · exact .inl h
  · exact .inr ⟨g, hp, hr.next hb⟩
theorem itemsIn_row (body : ByteArray) (l : List Val) (w : World) (hs : body.size ≤ 1048576) (hi : items body = some l) :
    Calls Tryz.prog 189 #[.string body] w fun e w' => (∃ p cap, e = .returned (.slice p l.length cap) ∧ RowV w' p l) ∧ Below w.heap.size w w' := by
  by_cases hl : l = []
  · subst hl
    exact (itemsIn_nil body w hs hi).mono fun e w' ⟨he, hb⟩ => ⟨⟨none, 0, he, .inl rfl⟩, hb⟩
  · exact (itemsIn_cons body l w hs hi hl).mono fun e w' ⟨⟨g, cap, he, ho⟩, hb⟩ => ⟨⟨some ⟨g, 0, none⟩, cap, he, .inr ⟨g, rfl, ReadV.of_own ho⟩⟩, hb⟩
theorem fieldsIn_row (body : ByteArray) (l : List Fld) (w : World) (hs : body.size ≤ 1048576) (hi : fields body = some l) :
    Calls Tryz.prog 190 #[.string body] w fun e w' => (∃ p cap, e = .returned (.slice p l.length cap) ∧ RowF w' p l) ∧ Below w.heap.size w w' := by
  by_cases hl : l = []
  · subst hl
    exact (fieldsIn_nil body w hs hi).mono fun e w' ⟨he, hb⟩ => ⟨⟨none, 0, he, .inl rfl⟩, hb⟩
  · exact (fieldsIn_cons body l w hs hi hl).mono fun e w' ⟨⟨g, cap, he, ho⟩, hb⟩ => ⟨⟨some ⟨g, 0, none⟩, cap, he, .inr ⟨g, rfl, ReadF.of_own ho⟩⟩, hb⟩

set_option maxRecDepth 4000 in
set_option maxHeartbeats 2000000 in
theorem compareRows (d : Nat) (ih : compareAt d) (p p' : Option Addr) (c c' : Nat) (la lb : List Val) (w : World) (ra : RowV w p la) (rb : RowV w p' lb) (hla : la.length ≤ 1048576) (hlb : lb.length ≤ 1048576)
    (hall : ∀ u ∈ la, fits d u = true ∧ u.t.size ≤ 1048576) (hall' : ∀ u ∈ lb, fits d u = true ∧ u.t.size ≤ 1048576) :
    Calls Tryz.prog 255 #[.slice p la.length c, .slice p' lb.length c', .func (.func 202) #[] #[]] w fun e w' => e = .returned (.int .i64 (lexG (ordV d) la lb)) ∧ Below w.heap.size w w' := by
  obtain ⟨R, hR⟩ : ∃ R, R = lexG (ordV d) la lb := ⟨_, rfl⟩
  rw [← hR]
  have HR : Hid _ := hR
  have RA : Hid (RowV _ _ _) := ra
  have RB : Hid (RowV _ _ _) := rb
  have HA : Hid _ := hall
  have HA' : Hid _ := hall'
  clear hR ra rb hall hall'
  go_enter Tryz.func255, Tryz.ntmps255
  go_wp2_with fail
  go_loopw [13] (fun i wr => ∃ k : Nat, k ≤ la.length ∧ k ≤ lb.length ∧ i = .int .i64 k ∧ R = lexG (ordV d) (la.drop k) (lb.drop k) ∧ Below w.heap.size w wr) (fun i _ => la.length - (intOf i).toNat)
  case atStart => exact ⟨0, Nat.zero_le _, Nat.zero_le _, rfl, HR.out, Below.refl _ _⟩
  case round =>
    obtain ⟨k, hk, hk', rfl, hr, hbel⟩ := hrel
    have HT : Hid _ := hr
    clear hr HR
    have hz := hbel.size
    by_cases hlt : k < la.length
    · rcases RA.out.next hbel with h0 | ⟨g, rfl, R1⟩
      · subst h0; simp at hlt
      · obtain ⟨x0, x1, x2⟩ := R1.cells k hlt
        by_cases hlt' : k < lb.length
        · rcases RB.out.next hbel with h0 | ⟨g', rfl, R2⟩
          · subst h0; simp at hlt'
          · obtain ⟨y0, y1, y2⟩ := R2.cells k hlt'
            have l1 := R1.lt
            have l2 := R2.lt
            have hk2 : (k : Int) < (lb.length : Int) := by omega
            have hq := HA.out la[k] (List.getElem_mem _)
            have hq' := HA'.out lb[k] (List.getElem_mem _)
            have HC0 : ∀ W : World, Calls Tryz.prog 202 #[.agg #[.int .i64 la[k].k, .int .i64 la[k].n, .string la[k].t], .agg #[.int .i64 lb[k].k, .int .i64 lb[k].n, .string lb[k].t]] W fun e w' => e = .returned (.int .i64 (ordV d la[k] lb[k])) ∧ Below W.heap.size W w' := fun W => ih la[k] lb[k] W hq.2 hq'.2 hq.1 hq'.1
            have hstep := lexG_step (ordV d) la lb k hlt hlt'
            rw [← HT.out] at hstep
            obtain ⟨O, hO⟩ : ∃ O, O = ordV d la[k] lb[k] := ⟨_, rfl⟩
            rw [← hO] at HC0 hstep
            have HC : Hid _ := HC0
            have HS : Hid _ := hstep
            clear hq hq' HC0 hstep hO HT R1 R2
            by_cases hO0 : O = 0
            · have e0 : (O == 0) = true := by simp [hO0]
              go_wp2_with fail
              refine (HC.out _).mono ?_
              rintro e w1 ⟨rfl, hb⟩
              have hb1 : Below w.heap.size w w1 := ((hbel.alloc hz _).alloc (by simp; omega) _).trans (hb.mono (by simp; omega))
              clear hb
              go_wp2_with fail
              go_roundw
              case rel => exact ⟨k + 1, by omega, by omega, by go_num, by rw [HS.out, if_pos hO0], hb1⟩
              case measure => simp [intOf]; omega
            · have e0 : (O == 0) = false := beq_eq_false_iff_ne.mpr hO0
              go_wp2_with fail
              refine (HC.out _).mono ?_
              rintro e w1 ⟨rfl, hb⟩
              have hb1 : Below w.heap.size w w1 := ((hbel.alloc hz _).alloc (by simp; omega) _).trans (hb.mono (by simp; omega))
              clear hb
              go_wp2_with fail
              go_ret
              exact ⟨by rw [HS.out, if_neg hO0]; rfl, hb1⟩
        · have hk2 : ¬ (k : Int) < (lb.length : Int) := by omega
          have hk3 : (lb.length : Int) ≤ (k : Int) := by omega
          have hR1 : R = 1 := by rw [HT.out]; exact lexG_end2 _ la lb k hlt (by omega)
          have hgl := R1.lt
          clear R1
          go_wp2_with fail
          go_ret
          exact ⟨by first | rfl | (rw [hR1]; rfl), by (repeat (first | (with_reducible exact Below.refl _ _) | (with_reducible assumption) | (with_reducible apply below_drewN) | (with_reducible apply Below.drew) | ((with_reducible refine Below.setCell ?_ ?_ _); rotate_left; focus (first | (simp; done) | (simp; omega) | omega)) | ((with_reducible refine Below.alloc ?_ ?_ _); rotate_left; focus (first | (simp; done) | (simp; omega) | omega))))⟩
    · have hR1 := lexG_end1 (ordV d) la lb k (by omega)
      rw [← HT.out] at hR1
      by_cases h2 : k < lb.length
      · rw [if_pos h2] at hR1
        have hgt : (la.length : Int) < (lb.length : Int) := by omega
        go_wp2_with fail
        go_ret
        exact ⟨by first | rfl | (rw [hR1]; rfl), hbel⟩
      · rw [if_neg h2] at hR1
        have hgt : ¬ (la.length : Int) < (lb.length : Int) := by omega
        go_wp2_with fail
        go_ret
        exact ⟨by first | rfl | (rw [hR1]; rfl), hbel⟩

set_option maxRecDepth 4000 in
set_option maxHeartbeats 1000000 in
theorem compareFields_any (d : Nat) (ih : compareAt d) (f g : Fld) (w : World) (hs : f.v.t.size ≤ 1048576) (hs' : g.v.t.size ≤ 1048576) (hf : fits d f.v = true) (hg : fits d g.v = true) :
    Calls Tryz.prog 257 #[.agg #[.string f.name, .int .i64 f.v.k, .int .i64 f.v.n, .string f.v.t], .agg #[.string g.name, .int .i64 g.v.k, .int .i64 g.v.n, .string g.v.t]] w fun e w' => e = .returned (.int .i64 (cF (ordV d) f g)) ∧ Below w.heap.size w w' := by
  have HC : Hid _ := ih f.v g.v
  by_cases h : cB f.name g.name = 0
  · have e0 : (cB f.name g.name == 0) = true := by simp [h]
    have e : cF (ordV d) f g = ordV d f.v g.v := by unfold cF; rw [if_pos h]
    rw [e]
    have HS : ∀ W : World, Calls Tryz.prog 243 #[.string f.name, .string g.name] W fun e w' => e = .returned (.int .i64 0) ∧ w' = W := fun W => by have := cmpStr_any f.name g.name W; rw [h] at this; exact this
    have HS1 : Hid _ := HS
    clear HS e0 e h
    go_enter Tryz.func257, Tryz.ntmps257
    go_wp2_with (first | (go_at_call 243; refine (HS1.out _).mono ?_; rintro e w1 ⟨rfl, rfl⟩) | (go_at_call 202; refine (HC.out _ hs hs' hf hg).mono ?_; rintro e w2 ⟨rfl, hb⟩))
    go_ret
    exact ⟨rfl, (((Below.refl _ _).alloc (Nat.le_refl _) _).alloc (by simp) _).trans (hb.mono (by simp; omega))⟩
  · have e0 : (cB f.name g.name == 0) = false := beq_eq_false_iff_ne.mpr h
    have e : cF (ordV d) f g = cB f.name g.name := by unfold cF; rw [if_neg h]
    rw [e]
    clear e
    go_enter Tryz.func257, Tryz.ntmps257
    go_wp2_with (go_at_call 243; refine (cmpStr_any f.name g.name _).mono ?_; rintro e w1 ⟨rfl, rfl⟩)
    go_ret
    exact ⟨rfl, by (repeat (first | (with_reducible exact Below.refl _ _) | (with_reducible assumption) | (with_reducible apply below_drewN) | (with_reducible apply Below.drew) | ((with_reducible refine Below.setCell ?_ ?_ _); rotate_left; focus (first | (simp; done) | (simp; omega) | omega)) | ((with_reducible refine Below.alloc ?_ ?_ _); rotate_left; focus (first | (simp; done) | (simp; omega) | omega))))⟩
set_option maxRecDepth 4000 in
set_option maxHeartbeats 2000000 in
theorem compareRowsF (d : Nat) (ih : compareAt d) (p p' : Option Addr) (c c' : Nat) (la lb : List Fld) (w : World) (ra : RowF w p la) (rb : RowF w p' lb) (hla : la.length ≤ 1048576) (hlb : lb.length ≤ 1048576)
    (hall : ∀ f ∈ la, fits d f.v = true ∧ f.v.t.size ≤ 1048576) (hall' : ∀ f ∈ lb, fits d f.v = true ∧ f.v.t.size ≤ 1048576) :
    Calls Tryz.prog 256 #[.slice p la.length c, .slice p' lb.length c', .func (.func 257) #[] #[]] w fun e w' => e = .returned (.int .i64 (lexG (cF (ordV d)) la lb)) ∧ Below w.heap.size w w' := by
  obtain ⟨R, hR⟩ : ∃ R, R = lexG (cF (ordV d)) la lb := ⟨_, rfl⟩
  rw [← hR]
  have HR : Hid _ := hR
  have RA : Hid (RowF _ _ _) := ra
  have RB : Hid (RowF _ _ _) := rb
  have HA : Hid _ := hall
  have HA' : Hid _ := hall'
  clear hR ra rb hall hall'
  go_enter Tryz.func256, Tryz.ntmps256
  go_wp2_with fail
  go_loopw [13] (fun i wr => ∃ k : Nat, k ≤ la.length ∧ k ≤ lb.length ∧ i = .int .i64 k ∧ R = lexG (cF (ordV d)) (la.drop k) (lb.drop k) ∧ Below w.heap.size w wr) (fun i _ => la.length - (intOf i).toNat)
  case atStart => exact ⟨0, Nat.zero_le _, Nat.zero_le _, rfl, HR.out, Below.refl _ _⟩
  case round =>
    obtain ⟨k, hk, hk', rfl, hr, hbel⟩ := hrel
    have HT : Hid _ := hr
    clear hr HR
    have hz := hbel.size
    by_cases hlt : k < la.length
    · rcases RA.out.next hbel with h0 | ⟨g, rfl, R1⟩
      · subst h0; simp at hlt
      · obtain ⟨x0, x1, x2, x3⟩ := R1.cells k hlt
        by_cases hlt' : k < lb.length
        · rcases RB.out.next hbel with h0 | ⟨g', rfl, R2⟩
          · subst h0; simp at hlt'
          · obtain ⟨y0, y1, y2, y3⟩ := R2.cells k hlt'
            have l1 := R1.lt
            have l2 := R2.lt
            have hk2 : (k : Int) < (lb.length : Int) := by omega
            have hq := HA.out la[k] (List.getElem_mem _)
            have hq' := HA'.out lb[k] (List.getElem_mem _)
            have HC0 : ∀ W : World, Calls Tryz.prog 257 #[.agg #[.string la[k].name, .int .i64 la[k].v.k, .int .i64 la[k].v.n, .string la[k].v.t], .agg #[.string lb[k].name, .int .i64 lb[k].v.k, .int .i64 lb[k].v.n, .string lb[k].v.t]] W fun e w' => e = .returned (.int .i64 (cF (ordV d) la[k] lb[k])) ∧ Below W.heap.size W w' := fun W => compareFields_any d ih la[k] lb[k] W hq.2 hq'.2 hq.1 hq'.1
            have hstep := lexG_step (cF (ordV d)) la lb k hlt hlt'
            rw [← HT.out] at hstep
            obtain ⟨O, hO⟩ : ∃ O, O = cF (ordV d) la[k] lb[k] := ⟨_, rfl⟩
            rw [← hO] at HC0 hstep
            have HC : Hid _ := HC0
            have HS : Hid _ := hstep
            clear hq hq' HC0 hstep hO HT R1 R2
            by_cases hO0 : O = 0
            · have e0 : (O == 0) = true := by simp [hO0]
              go_wp2_with fail
              refine (HC.out _).mono ?_
              rintro e w1 ⟨rfl, hb⟩
              have hb1 : Below w.heap.size w w1 := ((hbel.alloc hz _).alloc (by simp; omega) _).trans (hb.mono (by simp; omega))
              clear hb
              go_wp2_with fail
              go_roundw
              case rel => exact ⟨k + 1, by omega, by omega, by go_num, by rw [HS.out, if_pos hO0], hb1⟩
              case measure => simp [intOf]; omega
            · have e0 : (O == 0) = false := beq_eq_false_iff_ne.mpr hO0
              go_wp2_with fail
              refine (HC.out _).mono ?_
              rintro e w1 ⟨rfl, hb⟩
              have hb1 : Below w.heap.size w w1 := ((hbel.alloc hz _).alloc (by simp; omega) _).trans (hb.mono (by simp; omega))
              clear hb
              go_wp2_with fail
              go_ret
              exact ⟨by rw [HS.out, if_neg hO0]; rfl, hb1⟩
        · have hk2 : ¬ (k : Int) < (lb.length : Int) := by omega
          have hk3 : (lb.length : Int) ≤ (k : Int) := by omega
          have hR1 : R = 1 := by rw [HT.out]; exact lexG_end2 _ la lb k hlt (by omega)
          have hgl := R1.lt
          clear R1
          go_wp2_with fail
          go_ret
          exact ⟨by first | rfl | (rw [hR1]; rfl), by (repeat (first | (with_reducible exact Below.refl _ _) | (with_reducible assumption) | (with_reducible apply below_drewN) | (with_reducible apply Below.drew) | ((with_reducible refine Below.setCell ?_ ?_ _); rotate_left; focus (first | (simp; done) | (simp; omega) | omega)) | ((with_reducible refine Below.alloc ?_ ?_ _); rotate_left; focus (first | (simp; done) | (simp; omega) | omega))))⟩
    · have hR1 := lexG_end1 (cF (ordV d)) la lb k (by omega)
      rw [← HT.out] at hR1
      by_cases h2 : k < lb.length
      · rw [if_pos h2] at hR1
        have hgt : (la.length : Int) < (lb.length : Int) := by omega
        go_wp2_with fail
        go_ret
        exact ⟨by first | rfl | (rw [hR1]; rfl), hbel⟩
      · rw [if_neg h2] at hR1
        have hgt : ¬ (la.length : Int) < (lb.length : Int) := by omega
        go_wp2_with fail
        go_ret
        exact ⟨by first | rfl | (rw [hR1]; rfl), hbel⟩

end Go.Proofs.YtkeghknceccdmaaGreatDoor
