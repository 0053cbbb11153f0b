/- Marks on rows of versions and of parts: what the laws' helpers answer, and which memory they change. -/
import Derived.Test.YtncpijfbbgipaaaGreatDoorColNQ
import Derived.Test.YtncpijfbbgipaaaGreatDoorEncUQ
import Derived.Test.YtncpijfbbgipaaaGreatDoorDocBQ
namespace Go.Proofs.YtncpijfbbgipaaaGreatDoor.Co
open Go.RowKit Tr
set_option linter.unusedVariables false

theorem markText_at (n : Nat) (z : Int) (hz : z = (n : Int)) (h1 : 1 ≤ n) (h2 : n ≤ 17592186044416) (w : World) :
    Calls Tryz.prog 66 #[.int .i64 z] w fun e w' => e = .returned (.string (Tr.mt n)) ∧ Below w.heap.size w w' := by
  subst hz; exact Tr.markText_any n h1 h2 w
/-- Whether a mark's number makes true. -/
def boolM (n : Int) : Bool := n % 3 == 0
/-- The version that marks a place, from number n on. -/
def markVr (n : Nat) : Ver := ⟨(n : Int), boolM ((n : Int) + 1), ⟨(n : Int) + 1 + 1, (n : Int) + 1 + 1 + 1, Tr.mt (n + 4)⟩⟩
def marksVr : Nat → Nat → List Ver
  | _, 0 => []
  | q, n + 1 => markVr q :: marksVr (q + 5) n
theorem marksVr_len : ∀ (n q : Nat), (marksVr q n).length = n
  | 0, _ => rfl
  | n + 1, q => by rw [marksVr, List.length_cons, marksVr_len n]
theorem marksVr_snoc : ∀ (k q : Nat), marksVr q (k + 1) = marksVr q k ++ [markVr (q + 5 * k)]
  | 0, q => rfl
  | k + 1, q => by
    rw [marksVr, marksVr_snoc k (q + 5), marksVr, List.cons_append, show q + 5 + 5 * k = q + 5 * (k + 1) by omega]
theorem marksVr_get : ∀ (n q i : Nat) (h : i < (marksVr q n).length), (marksVr q n)[i] = markVr (q + 5 * i)
  | 0, q, i, h => by simp [marksVr] at h
  | n + 1, q, 0, h => by simp [marksVr]
  | n + 1, q, i + 1, h => by
    have := marksVr_get n (q + 5) i (by rw [marksVr_len] at *; omega)
    simp only [marksVr, List.getElem_cons_succ]
    rw [this]
    congr 1
    omega
def markMixVr (q : Nat) (l : List Ver) (k : Nat) : List Ver := marksVr q k ++ l.drop k
theorem markMixVr_len (q : Nat) (l : List Ver) (k : Nat) (h : k ≤ l.length) : (markMixVr q l k).length = l.length := by unfold markMixVr; rw [List.length_append, marksVr_len, List.length_drop]; omega
theorem markMixVr_zero (q : Nat) (l : List Ver) : markMixVr q l 0 = l := by unfold markMixVr marksVr; simp
theorem markMixVr_full (q : Nat) (l : List Ver) : markMixVr q l l.length = marksVr q l.length := by unfold markMixVr; simp
theorem markMixVr_set (q : Nat) (l : List Ver) (k : Nat) (h : k < l.length) : (markMixVr q l k).set k (markVr (q + 5 * k)) = markMixVr q l (k + 1) := by
  unfold markMixVr
  rw [List.set_append_right _ _ (by rw [marksVr_len]; omega), marksVr_len, Nat.sub_self, marksVr_snoc, List.append_assoc]
  congr 1
  rw [List.drop_eq_getElem_cons h]; rfl

set_option maxRecDepth 4000 in
set_option maxHeartbeats 2000000 in
theorem markVersionS_any (base : Nat) (v : Value) (l : List Ver) (q : Nat) (w : World) (hown : OwnVr w base v l) (h1 : 1 ≤ q) (h2 : q + 5 * l.length ≤ 17592186044416) (hl : l.length ≤ 1048576) :
    Calls Tryz.prog 65 #[v, .int .i64 q] w fun e w' => e = .returned (.int .i64 ((q + 5 * l.length : Nat) : Int)) ∧ OwnVr w' base v (marksVr q l.length) ∧ w.grownBy w' v.ownBlock := by
  rcases hown.form with ⟨rfl, rfl⟩ | ⟨g, c, rfl, hgb, hgl⟩
  · have HO0 : Hid (OwnVr _ _ _ _) := hown
    clear hown
    go_enter Tryz.func65, Tryz.ntmps65
    go_wp2_with fail
    refine wp_loop_rounds 1 ?_
    rw [rounds_succ]
    go_wp2_with fail
    go_ret
    exact ⟨rfl, HO0.out, grown_refl _ _⟩
  · have HO0 : Hid (OwnVr _ _ _ _) := hown
    clear hown
    go_enter Tryz.func65, Tryz.ntmps65
    go_wp2_with fail
    go_loopw [1, 5] (fun x i wr => ∃ (k E : Nat), k ≤ l.length ∧ i = .int .i64 k ∧ x = .int .i64 (E : Int) ∧ E = q + 5 * k ∧ wr.ownsRow base 69 5 (.slice (some ⟨g, 0, none⟩) l.length c) l.length (flatVr (markMixVr q l k)) ∧ w.grownBy wr (some g)) (fun _ i _ => l.length - (intOf i).toNat)
    case atStart => exact ⟨0, q, Nat.zero_le _, rfl, rfl, by omega, by rw [markMixVr_zero]; exact HO0.out, grown_refl _ _⟩
    case round =>
      obtain ⟨k, E, hk, rfl, rfl, hE, hown, hgr⟩ := hrel
      have HB : Hid (World.grownBy _ _ _) := hgr
      have hz := hgr.size
      clear hgr HO0
      by_cases hlt : k < l.length
      · have hlt2 : (k : Int) < (l.length : Int) := by omega
        have hm := markMixVr_len q l k hk
        have hglr : g < wr.heap.size := (hown.lt g rfl).2
        obtain ⟨z0, y0⟩ := own_there hown (k * 5) (by omega)
        obtain ⟨z1, y1⟩ := own_there hown (k * 5 + 1) (by omega)
        obtain ⟨z2, y2⟩ := own_there hown (k * 5 + 2) (by omega)
        obtain ⟨z3, y3⟩ := own_there hown (k * 5 + 3) (by omega)
        have hf := fun o => World.ownsRow.frozenAt hown o
        have f0 := hf (k * 5); have f1 := hf (k * 5 + 1); have f2 := hf (k * 5 + 2); have f3 := hf (k * 5 + 3)
        obtain ⟨B, hB⟩ : ∃ B : Bool, B = boolM ((E : Int) + 1) := ⟨_, rfl⟩
        have hB' : (((E : Int) + 1) % 3 == 0) = B := by rw [hB]; rfl
        have hT' : Int.tmod ((E : Int) + 1) 3 = ((E : Int) + 1) % 3 := Int.tmod_eq_emod_of_nonneg (by omega)
        have hst4 := (World.ownsRow.stored (World.ownsRow.stored (World.ownsRow.stored (World.ownsRow.stored hown (k * 5) (.int .i64 (E : Int))).1 (k * 5 + 1) (.bool B)).1 (k * 5 + 2) (.int .i64 ((E : Int) + 1 + 1))).1 (k * 5 + 3) (.int .i64 ((E : Int) + 1 + 1 + 1))).1
        have he : (((((flatVr (markMixVr q l k)).set (k * 5) (.int .i64 (E : Int))).set (k * 5 + 1) (.bool B)).set (k * 5 + 2) (.int .i64 ((E : Int) + 1 + 1))).set (k * 5 + 3) (.int .i64 ((E : Int) + 1 + 1 + 1))).set (k * 5 + 4) (.string (Tr.mt (E + 4))) = flatVr (markMixVr q l (k + 1)) := by
          rw [← markMixVr_set q l k hlt, hB, ← hE]; exact flatVr_set (markMixVr q l k) k (markVr E) (by omega)
        have HE : Hid _ := he
        have HS4 : Hid (World.ownsRow _ _ _ _ _ _ _) := hst4
        have HEQ : Hid (E = q + 5 * k) := hE
        have hEb : E ≤ 17592186044411 := by omega
        have hE1 : 1 ≤ E := by omega
        clear hown hst4 he hB hE hf
        go_wp2_with fail
        refine (markText_at (E + 4) _ (by omega) (by omega) (by omega) _).mono ?_
        rintro e w2 ⟨rfl, hb2⟩
        have hown2 := owns_below HS4.out hb2
        obtain ⟨z4, y4⟩ := own_there hown2 (k * 5 + 4) (by omega)
        have f4 := World.ownsRow.frozenAt hown2 (k * 5 + 4)
        have hst := (World.ownsRow.stored hown2 (k * 5 + 4) (.string (Tr.mt (E + 4)))).1
        rw [HE.out] at hst
        have HS : Hid (World.ownsRow _ _ _ _ _ _ _) := hst
        have HB2 : Hid (World.grownBy _ _ _) := grown_trans (grown_trans (grown_trans (grown_trans (grown_trans HB.out grown_set) grown_set) grown_set) grown_set) (grown_below hb2)
        have hz2 := hb2.size
        clear hst hown2 hb2 hm HS4 y0 y1 y2 y3 f0 f1 f2 f3
        go_wp2_with fail
        go_roundw
        case rel => exact ⟨k + 1, E + 5, by omega, by go_num, by go_num, by have := HEQ.out; omega, HS.out, grown_trans HB2.out grown_set⟩
        case measure => simp [intOf]; omega
      · obtain rfl : k = l.length := by omega
        rw [markMixVr_full] at hown
        have HO : Hid (World.ownsRow _ _ _ _ _ _ _) := hown
        clear hown
        subst hE
        go_wp2_with fail
        go_ret
        exact ⟨rfl, by unfold OwnVr; rw [marksVr_len]; exact HO.out, HB.out⟩

end Go.Proofs.YtncpijfbbgipaaaGreatDoor.Co

/- Marks on rows of parts and of chains: what the laws' helpers answer, and which memory they change. -/
namespace Go.Proofs.YtncpijfbbgipaaaGreatDoor.Co
open Go.RowKit Tr
set_option linter.unusedVariables false

/-- The part that marks a place, from number n on. -/
def markPt (n : Nat) : Prt := ⟨Tr.mt n, boolM ((n : Int) + 1)⟩
def marksPt : Nat → Nat → List Prt
  | _, 0 => []
  | q, n + 1 => markPt q :: marksPt (q + 2) n
theorem marksPt_len : ∀ (n q : Nat), (marksPt q n).length = n
  | 0, _ => rfl
  | n + 1, q => by rw [marksPt, List.length_cons, marksPt_len n]
theorem marksPt_snoc : ∀ (k q : Nat), marksPt q (k + 1) = marksPt q k ++ [markPt (q + 2 * k)]
  | 0, q => rfl
  | k + 1, q => by
    rw [marksPt, marksPt_snoc k (q + 2), marksPt, List.cons_append, show q + 2 + 2 * k = q + 2 * (k + 1) by omega]
theorem marksPt_get : ∀ (n q i : Nat) (h : i < (marksPt q n).length), (marksPt q n)[i] = markPt (q + 2 * i)
  | 0, q, i, h => by simp [marksPt] at h
  | n + 1, q, 0, h => by simp [marksPt]
  | n + 1, q, i + 1, h => by
    have := marksPt_get n (q + 2) i (by rw [marksPt_len] at *; omega)
    simp only [marksPt, List.getElem_cons_succ]
    rw [this]
    congr 1
    omega
def markMixPt (q : Nat) (l : List Prt) (k : Nat) : List Prt := marksPt q k ++ l.drop k
theorem markMixPt_len (q : Nat) (l : List Prt) (k : Nat) (h : k ≤ l.length) : (markMixPt q l k).length = l.length := by unfold markMixPt; rw [List.length_append, marksPt_len, List.length_drop]; omega
theorem markMixPt_zero (q : Nat) (l : List Prt) : markMixPt q l 0 = l := by unfold markMixPt marksPt; simp
theorem markMixPt_full (q : Nat) (l : List Prt) : markMixPt q l l.length = marksPt q l.length := by unfold markMixPt; simp
theorem markMixPt_set (q : Nat) (l : List Prt) (k : Nat) (h : k < l.length) : (markMixPt q l k).set k (markPt (q + 2 * k)) = markMixPt q l (k + 1) := by
  unfold markMixPt
  rw [List.set_append_right _ _ (by rw [marksPt_len]; omega), marksPt_len, Nat.sub_self, marksPt_snoc, List.append_assoc]
  congr 1
  rw [List.drop_eq_getElem_cons h]; rfl

set_option maxRecDepth 4000 in
set_option maxHeartbeats 2000000 in
theorem markPartS_any (base : Nat) (v : Value) (l : List Prt) (q : Nat) (w : World) (hown : OwnD w base v l) (h1 : 1 ≤ q) (h2 : q + 2 * l.length ≤ 17592186044416) (hl : l.length ≤ 1048576) :
    Calls Tryz.prog 67 #[v, .int .i64 q] w fun e w' => e = .returned (.int .i64 ((q + 2 * l.length : Nat) : Int)) ∧ OwnD w' base v (marksPt q l.length) ∧ w.grownBy w' v.ownBlock := by
  rcases hown.form with ⟨rfl, rfl⟩ | ⟨g, c, rfl, hgb, hgl⟩
  · have HO0 : Hid (OwnD _ _ _ _) := hown
    clear hown
    go_enter Tryz.func67, Tryz.ntmps67
    go_wp2_with fail
    refine wp_loop_rounds 1 ?_
    rw [rounds_succ]
    go_wp2_with fail
    go_ret
    exact ⟨rfl, HO0.out, grown_refl _ _⟩
  · have HO0 : Hid (OwnD _ _ _ _) := hown
    clear hown
    go_enter Tryz.func67, Tryz.ntmps67
    go_wp2_with fail
    go_loopw [1, 5] (fun x i wr => ∃ (k E : Nat), k ≤ l.length ∧ i = .int .i64 k ∧ x = .int .i64 (E : Int) ∧ E = q + 2 * k ∧ wr.ownsRow base 112 2 (.slice (some ⟨g, 0, none⟩) l.length c) l.length (flatD (markMixPt q l k)) ∧ w.grownBy wr (some g)) (fun _ i _ => l.length - (intOf i).toNat)
    case atStart => exact ⟨0, q, Nat.zero_le _, rfl, rfl, by omega, by rw [markMixPt_zero]; exact HO0.out, grown_refl _ _⟩
    case round =>
      obtain ⟨k, E, hk, rfl, rfl, hE, hown, hgr⟩ := hrel
      have HB : Hid (World.grownBy _ _ _) := hgr
      have hz := hgr.size
      clear hgr HO0
      by_cases hlt : k < l.length
      · have hlt2 : (k : Int) < (l.length : Int) := by omega
        have hm := markMixPt_len q l k hk
        have hglr : g < wr.heap.size := (hown.lt g rfl).2
        have HO : Hid (World.ownsRow _ _ _ _ _ _ _) := hown
        obtain ⟨B, hB⟩ : ∃ B : Bool, B = boolM ((E : Int) + 1) := ⟨_, rfl⟩
        have hB' : (((E : Int) + 1) % 3 == 0) = B := by rw [hB]; rfl
        have hT' : Int.tmod ((E : Int) + 1) 3 = ((E : Int) + 1) % 3 := Int.tmod_eq_emod_of_nonneg (by omega)
        have he : ((flatD (markMixPt q l k)).set (k * 2) (.string (Tr.mt E))).set (k * 2 + 1) (.bool B) = flatD (markMixPt q l (k + 1)) := by
          rw [← markMixPt_set q l k hlt, hB, ← hE]; exact flatD_set (markMixPt q l k) k (markPt E) (by omega)
        have HE : Hid _ := he
        have HEQ : Hid (E = q + 2 * k) := hE
        have hEb : E ≤ 17592186044414 := by omega
        have hE1 : 1 ≤ E := by omega
        clear hown he hB hE
        go_wp2_with fail
        refine (markText_at E _ (by omega) (by omega) (by omega) _).mono ?_
        rintro e w2 ⟨rfl, hb2⟩
        have hown2 := owns_below HO.out hb2
        obtain ⟨z0, y0⟩ := own_there hown2 (k * 2) (by omega)
        obtain ⟨z1, y1⟩ := own_there hown2 (k * 2 + 1) (by omega)
        have f0 := World.ownsRow.frozenAt hown2 (k * 2)
        have f1 := World.ownsRow.frozenAt hown2 (k * 2 + 1)
        have hst := (World.ownsRow.stored (World.ownsRow.stored hown2 (k * 2) (.string (Tr.mt E))).1 (k * 2 + 1) (.bool B)).1
        rw [HE.out] at hst
        have HS : Hid (World.ownsRow _ _ _ _ _ _ _) := hst
        have HB2 : Hid (World.grownBy _ _ _) := grown_trans HB.out (grown_below hb2)
        have hz2 := hb2.size
        clear hst hown2 hb2 hm HO
        go_wp2_with fail
        go_roundw
        case rel => exact ⟨k + 1, E + 2, by omega, by go_num, by go_num, by have := HEQ.out; omega, HS.out, grown_trans (grown_trans HB2.out grown_set) grown_set⟩
        case measure => simp [intOf]; omega
      · obtain rfl : k = l.length := by omega
        rw [markMixPt_full] at hown
        have HO : Hid (World.ownsRow _ _ _ _ _ _ _) := hown
        clear hown
        subst hE
        go_wp2_with fail
        go_ret
        exact ⟨rfl, by unfold OwnD; rw [marksPt_len]; exact HO.out, HB.out⟩

/-- The chains that marks leave, from number q on, and the number behind them. -/
def marksCh : Nat → List Chn → List Chn
  | _, [] => []
  | q, p :: t => ⟨q, marksVr (q + 1) p.vs.length⟩ :: marksCh (q + 1 + 5 * p.vs.length) t
def endCh : Nat → List Chn → Nat
  | q, [] => q
  | q, p :: t => endCh (q + 1 + 5 * p.vs.length) t
theorem marksCh_cons (q : Nat) (p : Chn) (t : List Chn) : marksCh q (p :: t) = ⟨q, marksVr (q + 1) p.vs.length⟩ :: marksCh (q + 1 + 5 * p.vs.length) t := rfl
theorem endCh_cons (q : Nat) (p : Chn) (t : List Chn) : endCh q (p :: t) = endCh (q + 1 + 5 * p.vs.length) t := rfl
theorem marksCh_len : ∀ (q : Nat) (f : List Chn), (marksCh q f).length = f.length
  | _, [] => rfl
  | q, p :: t => by unfold marksCh; simp [marksCh_len _ t]
theorem marksCh_app : ∀ (q : Nat) (a b : List Chn), marksCh q (a ++ b) = marksCh q a ++ marksCh (endCh q a) b
  | _, [], b => rfl
  | q, p :: t, b => by
    rw [List.cons_append, marksCh_cons, marksCh_cons, endCh_cons, marksCh_app _ t b]; rfl
theorem endCh_app : ∀ (q : Nat) (a b : List Chn), endCh q (a ++ b) = endCh (endCh q a) b
  | _, [], b => rfl
  | q, p :: t, b => by
    rw [List.cons_append, endCh_cons, endCh_cons]
    exact endCh_app _ t b
theorem endCh_ge : ∀ (q : Nat) (f : List Chn), q ≤ endCh q f
  | q, [] => Nat.le_refl _
  | q, p :: t => by
    have := endCh_ge (q + 1 + 5 * p.vs.length) t
    unfold endCh; omega
theorem endCh_le : ∀ (q : Nat) (f : List Chn), (∀ p ∈ f, p.vs.length ≤ 1048576) → endCh q f ≤ q + f.length * 5242881
  | q, [], _ => by simp [endCh]
  | q, p :: t, h => by
    have h1 := endCh_le (q + 1 + 5 * p.vs.length) t (fun r hr => h r (List.mem_cons_of_mem _ hr))
    have h2 := h p (List.mem_cons_self ..)
    unfold endCh
    rw [List.length_cons, Nat.add_mul]
    omega
/-- The first k chains marked. -/
def mixMCh (q : Nat) (f : List Chn) (k : Nat) : List Chn := marksCh q (f.take k) ++ f.drop k
theorem mixMCh_len (q : Nat) (f : List Chn) (k : Nat) (h : k ≤ f.length) : (mixMCh q f k).length = f.length := by unfold mixMCh; rw [List.length_append, marksCh_len, List.length_take, List.length_drop]; omega
theorem mixMCh_zero (q : Nat) (f : List Chn) : mixMCh q f 0 = f := by unfold mixMCh marksCh; simp
theorem mixMCh_full (q : Nat) (f : List Chn) (k : Nat) (h : k = f.length) : mixMCh q f k = marksCh q f := by subst h; unfold mixMCh; simp
theorem mixMCh_get (q : Nat) (f : List Chn) (k : Nat) (h : k < f.length) (h2 : k < (mixMCh q f k).length) : (mixMCh q f k)[k] = f[k] := by
  have hl : (marksCh q (f.take k)).length = k := by rw [marksCh_len, List.length_take]; omega
  have e : (mixMCh q f k)[k]? = f[k]? := by
    unfold mixMCh
    rw [List.getElem?_append_right (by omega), hl, Nat.sub_self, List.getElem?_drop]; rfl
  rw [List.getElem?_eq_getElem h2, List.getElem?_eq_getElem h] at e
  exact Option.some.inj e
theorem mixMCh_set (q : Nat) (f : List Chn) (k : Nat) (h : k < f.length) : (mixMCh q f k).set k ⟨(endCh q (f.take k) : Nat), marksVr (endCh q (f.take k) + 1) f[k].vs.length⟩ = mixMCh q f (k + 1) := by
  unfold mixMCh
  have hl : (marksCh q (f.take k)).length = k := by rw [marksCh_len, List.length_take]; omega
  rw [List.set_append_right _ _ (by omega), hl, Nat.sub_self, List.take_succ_eq_append_getElem h, marksCh_app, List.append_assoc]
  congr 1
  rw [List.drop_eq_getElem_cons h]; rfl
theorem endCh_succ (q : Nat) (f : List Chn) (k : Nat) (h : k < f.length) : endCh q (f.take (k + 1)) = endCh q (f.take k) + 1 + 5 * f[k].vs.length := by
  rw [List.take_succ_eq_append_getElem h, endCh_app]; rfl

theorem PartCh.mark {w w3 : World} {lo g c n : Nat} {f : List Chn} {vs : Nat → Value} {xs : List Value} (h : PartCh w lo (.slice (some ⟨g, 0, none⟩) n c) n f n vs xs) (hn : f.length = n) {k : Nat} (hk : k < n) {num : Int} {es : List Ver}
    (ho : OwnVr w3 lo (vs k) es) (hg : (w.setCell ⟨g, k * 2, none⟩ (.int .i64 num)).grownBy w3 (vs k).ownBlock) : PartCh w3 lo (.slice (some ⟨g, 0, none⟩) n c) n (f.set k ⟨num, es⟩) n vs (xs.set (k * 2) (.int .i64 num)) := by
  have hl : xs.length = n * 2 := h.row.1
  have hsw : ∀ {i j : Nat}, ((vs i).ownBlock = none ∨ (vs i).ownBlock ≠ (vs j).ownBlock) → ((vs j).ownBlock = none ∨ (vs j).ownBlock ≠ (vs i).ownBlock) := by
    intro i j hh
    rcases hh with hh | hh
    · cases hj : (vs j).ownBlock with
      | none => exact .inl rfl
      | some b => exact .inr (by rw [hh]; simp)
    · exact .inr (fun e => hh e.symm)
  refine ⟨?_, ?_, ?_, ?_, ?_⟩
  · refine ((World.ownsRow.stored h.row (k * 2) (.int .i64 num)).1).kept hg (.inr ?_)
    rcases h.aside k (by omega) hk with hh | hh
    · rw [hh]; simp [Value.ownBlock]
    · exact fun e => hh e.symm
  · intro i hi0 hik
    have hi : i < f.length := by simpa using hi0
    by_cases e : i = k
    · subst e
      rw [List.getElem_set_self, List.getElem?_set_self (by omega), List.getElem?_set_ne (by omega)]
      exact ⟨rfl, (h.at_ i hi hik).2⟩
    · rw [List.getElem_set_ne (fun e' => e e'.symm), List.getElem?_set_ne (by omega), List.getElem?_set_ne (by omega)]
      exact h.at_ i hi hik
  · intro i hi0 hik
    have hi : i < f.length := by simpa using hi0
    by_cases e : i = k
    · subst e; rw [List.getElem_set_self]; exact ho
    · rw [List.getElem_set_ne (fun e' => e e'.symm)]
      exact ((World.ownsRow.kept (h.ents i hi hik) grown_set (h.aside i hi hik))).kept hg (h.apart i k hi (by omega) hik hk e)
  · intro i j hi hj hik hjk hne
    rw [List.length_set] at hi hj
    exact h.apart i j hi hj hik hjk hne
  · intro i hi hik
    rw [List.length_set] at hi
    exact h.aside i hi hik

set_option maxRecDepth 4000 in
set_option maxHeartbeats 2000000 in
theorem markChainS_any (lo hi : Nat) (v : Value) (f : List Chn) (q : Nat) (w : World) (hown : OwnChH w lo hi v f) (h1 : 1 ≤ q) (h2 : q ≤ 1000) (hl : f.length ≤ 1048576) (hs : ∀ p ∈ f, p.vs.length ≤ 1048576) :
    Calls Tryz.prog 34 #[v, .int .i64 q] w fun e w' => e = .returned (.int .i64 ((endCh q f : Nat) : Int)) ∧ OwnChH w' lo hi v (marksCh q f) ∧ Chg lo hi w w' := by
  have HH := hown
  obtain ⟨vs, xs0, hP, hv, hvs⟩ := HH
  have hrow := hP.row
  obtain ⟨hr1, hr2⟩ := hrow
  rcases hr2 with ⟨rfl, h0⟩ | ⟨g, c, cur, rfl, hg, _⟩
  · have hf : f = [] := List.length_eq_zero_iff.1 h0
    subst hf
    have HO0 : Hid (OwnChH _ _ _ _ _) := hown
    clear hown hP hv hvs hr1
    go_enter Tryz.func34, Tryz.ntmps34
    go_wp2_with fail
    refine wp_loop_rounds 1 ?_
    rw [rounds_succ]
    go_wp2_with fail
    go_ret
    exact ⟨rfl, HO0.out, Chg.refl _ _ _⟩
  · have HP0 : Hid (PartCh _ _ _ _ _ _ _ _) := hP
    have HV : Hid (∀ b, (Value.slice (some ⟨g, 0, none⟩) f.length c).ownBlock = some b → b < hi) := hv
    have HVS : Hid (∀ i, i < f.length → ∀ b, (vs i).ownBlock = some b → b < hi) := hvs
    have HS : Hid _ := hs
    clear hown hP hv hvs hs hr1
    go_enter Tryz.func34, Tryz.ntmps34
    go_wp2_with fail
    go_loopw [1, 5] (fun x i wr => ∃ (k : Nat) (xs : List Value), k ≤ f.length ∧ i = .int .i64 k ∧ x = .int .i64 ((endCh q (f.take k) : Nat) : Int) ∧ PartCh wr lo (.slice (some ⟨g, 0, none⟩) f.length c) f.length (mixMCh q f k) f.length vs xs ∧ Chg lo hi w wr) (fun _ i _ => f.length - (intOf i).toNat)
    case atStart => exact ⟨0, xs0, Nat.zero_le _, rfl, rfl, by rw [mixMCh_zero]; exact HP0.out, Chg.refl _ _ _⟩
    case round =>
      obtain ⟨k, xs, hk, rfl, rfl, hP, hC⟩ := hrel
      have HC : Hid (Chg _ _ _ _) := hC
      have hz := hC.size
      have hml := mixMCh_len q f k hk
      have hen1 := endCh_ge q (f.take k)
      have hen2 := endCh_le q (f.take k) (fun p hp => HS.out p (List.mem_of_mem_take hp))
      have hen3 : (f.take k).length ≤ 1048576 := by rw [List.length_take]; omega
      have hen4 : (f.take k).length * 5242881 ≤ 1048576 * 5242881 := Nat.mul_le_mul_right _ hen3
      clear hC HP0
      by_cases hlt : k < f.length
      · have hlt2 : (k : Int) < (f.length : Int) := by omega
        have hsk := HS.out f[k] (List.getElem_mem _)
        have hglr : g < wr.heap.size := (hP.row.lt g rfl).2
        obtain ⟨z0, y0⟩ := own_there hP.row (k * 2) (by omega)
        have f0 := World.ownsRow.frozenAt hP.row (k * 2)
        have hat := (hP.at_ k (by omega) hlt).2
        have y1 := owns_cell hP.row _ _ hat
        have hen := hP.ents k (by omega) hlt
        rw [mixMCh_get q f k hlt] at hen
        have hsu := endCh_succ q f k hlt
        have hmset := mixMCh_set q f k hlt
        obtain ⟨E, hE⟩ : ∃ E, E = endCh q (f.take k) := ⟨_, rfl⟩
        rw [← hE] at hen1 hen2 hsu hmset ⊢
        have hen' : OwnVr (wr.setCell ⟨g, k * 2, none⟩ (.int .i64 E)) lo (vs k) f[k].vs := World.ownsRow.kept hen grown_set (hP.aside k (by omega) hlt)
        have HM0 := markVersionS_any lo (vs k) f[k].vs (E + 1) _ hen' (by omega) (by omega) hsk
        rw [show ((E + 1 : Nat) : Int) = (E : Int) + 1 by omega] at HM0
        have HM : Hid (Calls _ _ _ _ _) := HM0
        have HP : Hid (PartCh _ _ _ _ _ _ _ _) := hP
        have HSU : Hid _ := hsu
        have HMS : Hid _ := hmset
        have hgw : lo ≤ g := (hP.row.lt g rfl).1
        have hEb : E ≤ 6000000000000 := by omega
        clear hP hat hen hen' hsu hmset hE hen2 hen3 hen4 HM0
        go_wp2_with fail
        refine HM.out.mono ?_
        rintro e w3 ⟨rfl, hO3, hg3⟩
        have hP3 := HP.out.mark hml hlt hO3 hg3
        rw [HMS.out] at hP3
        have HP3 : Hid (PartCh _ _ _ _ _ _ _ _) := hP3
        have HC3 : Hid (Chg _ _ _ _) := (HC.out.trans (Chg.of_grown grown_set (fun b hb => by injection hb with hb; subst hb; exact ⟨hgw, HV.out _ rfl⟩))).trans (Chg.of_grown hg3 (fun b hb => ⟨(World.ownsRow.lt hO3 b hb).1, HVS.out k hlt b hb⟩))
        have hz3 := hg3.size
        clear hP3 hO3 hg3 HM HP HC
        go_wp2_with fail
        go_roundw
        case rel => exact ⟨k + 1, _, by omega, by go_num, by rw [HSU.out]; go_num, HP3.out, HC3.out⟩
        case measure => simp [intOf]; omega
      · obtain rfl : k = f.length := by omega
        rw [mixMCh_full q f _ rfl] at hP
        rw [List.take_length] at *
        have HP : Hid (PartCh _ _ _ _ _ _ _ _) := hP
        clear hP
        go_wp2_with fail
        go_ret
        exact ⟨rfl, ⟨vs, xs, by rw [marksCh_len]; exact HP.out, HV.out, by rw [marksCh_len]; exact HVS.out⟩, HC.out⟩


end Go.Proofs.YtncpijfbbgipaaaGreatDoor.Co

/- Marks on rows of definitions, and on collections: what the laws' helpers answer, and which memory they change. -/
namespace Go.Proofs.YtncpijfbbgipaaaGreatDoor.Co
open Go.RowKit Tr
set_option linter.unusedVariables false

/-- The definitions that marks leave, from number q on, and the number behind them. -/
def marksDf : Nat → List Dfn → List Dfn
  | _, [] => []
  | q, p :: t => ⟨Tr.mt q, marksPt (q + 1) p.ps.length⟩ :: marksDf (q + 1 + 2 * p.ps.length) t
def endDf : Nat → List Dfn → Nat
  | q, [] => q
  | q, p :: t => endDf (q + 1 + 2 * p.ps.length) t
theorem marksDf_cons (q : Nat) (p : Dfn) (t : List Dfn) : marksDf q (p :: t) = ⟨Tr.mt q, marksPt (q + 1) p.ps.length⟩ :: marksDf (q + 1 + 2 * p.ps.length) t := rfl
theorem endDf_cons (q : Nat) (p : Dfn) (t : List Dfn) : endDf q (p :: t) = endDf (q + 1 + 2 * p.ps.length) t := rfl
theorem marksDf_len : ∀ (q : Nat) (f : List Dfn), (marksDf q f).length = f.length
  | _, [] => rfl
  | q, p :: t => by unfold marksDf; simp [marksDf_len _ t]
theorem marksDf_app : ∀ (q : Nat) (a b : List Dfn), marksDf q (a ++ b) = marksDf q a ++ marksDf (endDf q a) b
  | _, [], b => rfl
  | q, p :: t, b => by
    rw [List.cons_append, marksDf_cons, marksDf_cons, endDf_cons, marksDf_app _ t b]; rfl
theorem endDf_app : ∀ (q : Nat) (a b : List Dfn), endDf q (a ++ b) = endDf (endDf q a) b
  | _, [], b => rfl
  | q, p :: t, b => by
    rw [List.cons_append, endDf_cons, endDf_cons]
    exact endDf_app _ t b
theorem endDf_ge : ∀ (q : Nat) (f : List Dfn), q ≤ endDf q f
  | q, [] => Nat.le_refl _
  | q, p :: t => by
    have := endDf_ge (q + 1 + 2 * p.ps.length) t
    unfold endDf; omega
theorem endDf_le : ∀ (q : Nat) (f : List Dfn), (∀ p ∈ f, p.ps.length ≤ 1048576) → endDf q f ≤ q + f.length * 2097153
  | q, [], _ => by simp [endDf]
  | q, p :: t, h => by
    have h1 := endDf_le (q + 1 + 2 * p.ps.length) t (fun r hr => h r (List.mem_cons_of_mem _ hr))
    have h2 := h p (List.mem_cons_self ..)
    unfold endDf
    rw [List.length_cons, Nat.add_mul]
    omega
/-- The first k definitions marked. -/
def mixMDf (q : Nat) (f : List Dfn) (k : Nat) : List Dfn := marksDf q (f.take k) ++ f.drop k
theorem mixMDf_len (q : Nat) (f : List Dfn) (k : Nat) (h : k ≤ f.length) : (mixMDf q f k).length = f.length := by unfold mixMDf; rw [List.length_append, marksDf_len, List.length_take, List.length_drop]; omega
theorem mixMDf_zero (q : Nat) (f : List Dfn) : mixMDf q f 0 = f := by unfold mixMDf marksDf; simp
theorem mixMDf_full (q : Nat) (f : List Dfn) (k : Nat) (h : k = f.length) : mixMDf q f k = marksDf q f := by subst h; unfold mixMDf; simp
theorem mixMDf_get (q : Nat) (f : List Dfn) (k : Nat) (h : k < f.length) (h2 : k < (mixMDf q f k).length) : (mixMDf q f k)[k] = f[k] := by
  have hl : (marksDf q (f.take k)).length = k := by rw [marksDf_len, List.length_take]; omega
  have e : (mixMDf q f k)[k]? = f[k]? := by
    unfold mixMDf
    rw [List.getElem?_append_right (by omega), hl, Nat.sub_self, List.getElem?_drop]; rfl
  rw [List.getElem?_eq_getElem h2, List.getElem?_eq_getElem h] at e
  exact Option.some.inj e
theorem mixMDf_set (q : Nat) (f : List Dfn) (k : Nat) (h : k < f.length) : (mixMDf q f k).set k ⟨Tr.mt (endDf q (f.take k)), marksPt (endDf q (f.take k) + 1) f[k].ps.length⟩ = mixMDf q f (k + 1) := by
  unfold mixMDf
  have hl : (marksDf q (f.take k)).length = k := by rw [marksDf_len, List.length_take]; omega
  rw [List.set_append_right _ _ (by omega), hl, Nat.sub_self, List.take_succ_eq_append_getElem h, marksDf_app, List.append_assoc]
  congr 1
  rw [List.drop_eq_getElem_cons h]; rfl
theorem endDf_succ (q : Nat) (f : List Dfn) (k : Nat) (h : k < f.length) : endDf q (f.take (k + 1)) = endDf q (f.take k) + 1 + 2 * f[k].ps.length := by
  rw [List.take_succ_eq_append_getElem h, endDf_app]; rfl

theorem PartDf.mark {w w3 : World} {lo g c n : Nat} {f : List Dfn} {vs : Nat → Value} {xs : List Value} (h : PartDf w lo (.slice (some ⟨g, 0, none⟩) n c) n f n vs xs) (hn : f.length = n) {k : Nat} (hk : k < n) {num : ByteArray} {es : List Prt}
    (ho : OwnD w3 lo (vs k) es) (hg : (w.setCell ⟨g, k * 2, none⟩ (.string num)).grownBy w3 (vs k).ownBlock) : PartDf w3 lo (.slice (some ⟨g, 0, none⟩) n c) n (f.set k ⟨num, es⟩) n vs (xs.set (k * 2) (.string num)) := by
  have hl : xs.length = n * 2 := h.row.1
  have hsw : ∀ {i j : Nat}, ((vs i).ownBlock = none ∨ (vs i).ownBlock ≠ (vs j).ownBlock) → ((vs j).ownBlock = none ∨ (vs j).ownBlock ≠ (vs i).ownBlock) := by
    intro i j hh
    rcases hh with hh | hh
    · cases hj : (vs j).ownBlock with
      | none => exact .inl rfl
      | some b => exact .inr (by rw [hh]; simp)
    · exact .inr (fun e => hh e.symm)
  refine ⟨?_, ?_, ?_, ?_, ?_⟩
  · refine ((World.ownsRow.stored h.row (k * 2) (.string num)).1).kept hg (.inr ?_)
    rcases h.aside k (by omega) hk with hh | hh
    · rw [hh]; simp [Value.ownBlock]
    · exact fun e => hh e.symm
  · intro i hi0 hik
    have hi : i < f.length := by simpa using hi0
    by_cases e : i = k
    · subst e
      rw [List.getElem_set_self, List.getElem?_set_self (by omega), List.getElem?_set_ne (by omega)]
      exact ⟨rfl, (h.at_ i hi hik).2⟩
    · rw [List.getElem_set_ne (fun e' => e e'.symm), List.getElem?_set_ne (by omega), List.getElem?_set_ne (by omega)]
      exact h.at_ i hi hik
  · intro i hi0 hik
    have hi : i < f.length := by simpa using hi0
    by_cases e : i = k
    · subst e; rw [List.getElem_set_self]; exact ho
    · rw [List.getElem_set_ne (fun e' => e e'.symm)]
      exact ((World.ownsRow.kept (h.ents i hi hik) grown_set (h.aside i hi hik))).kept hg (h.apart i k hi (by omega) hik hk e)
  · intro i j hi hj hik hjk hne
    rw [List.length_set] at hi hj
    exact h.apart i j hi hj hik hjk hne
  · intro i hi hik
    rw [List.length_set] at hi
    exact h.aside i hi hik

set_option maxRecDepth 4000 in
set_option maxHeartbeats 2000000 in
theorem markDefS_any (lo hi : Nat) (v : Value) (f : List Dfn) (q : Nat) (w : World) (hown : OwnDfH w lo hi v f) (h1 : 1 ≤ q) (h2 : q ≤ 6000000000000) (hl : f.length ≤ 1048576) (hs : ∀ p ∈ f, p.ps.length ≤ 1048576) :
    Calls Tryz.prog 35 #[v, .int .i64 q] w fun e w' => e = .returned (.int .i64 ((endDf q f : Nat) : Int)) ∧ OwnDfH w' lo hi v (marksDf q f) ∧ Chg lo hi w w' := by
  have HH := hown
  obtain ⟨vs, xs0, hP, hv, hvs⟩ := HH
  have hrow := hP.row
  obtain ⟨hr1, hr2⟩ := hrow
  rcases hr2 with ⟨rfl, h0⟩ | ⟨g, c, cur, rfl, hg, _⟩
  · have hf : f = [] := List.length_eq_zero_iff.1 h0
    subst hf
    have HO0 : Hid (OwnDfH _ _ _ _ _) := hown
    clear hown hP hv hvs hr1
    go_enter Tryz.func35, Tryz.ntmps35
    go_wp2_with fail
    refine wp_loop_rounds 1 ?_
    rw [rounds_succ]
    go_wp2_with fail
    go_ret
    exact ⟨rfl, HO0.out, Chg.refl _ _ _⟩
  · have HP0 : Hid (PartDf _ _ _ _ _ _ _ _) := hP
    have HV : Hid (∀ b, (Value.slice (some ⟨g, 0, none⟩) f.length c).ownBlock = some b → b < hi) := hv
    have HVS : Hid (∀ i, i < f.length → ∀ b, (vs i).ownBlock = some b → b < hi) := hvs
    have HS : Hid _ := hs
    clear hown hP hv hvs hs hr1
    go_enter Tryz.func35, Tryz.ntmps35
    go_wp2_with fail
    go_loopw [1, 5] (fun x i wr => ∃ (k : Nat) (xs : List Value), k ≤ f.length ∧ i = .int .i64 k ∧ x = .int .i64 ((endDf q (f.take k) : Nat) : Int) ∧ PartDf wr lo (.slice (some ⟨g, 0, none⟩) f.length c) f.length (mixMDf q f k) f.length vs xs ∧ Chg lo hi w wr) (fun _ i _ => f.length - (intOf i).toNat)
    case atStart => exact ⟨0, xs0, Nat.zero_le _, rfl, rfl, by rw [mixMDf_zero]; exact HP0.out, Chg.refl _ _ _⟩
    case round =>
      obtain ⟨k, xs, hk, rfl, rfl, hP, hC⟩ := hrel
      have HC : Hid (Chg _ _ _ _) := hC
      have hz := hC.size
      have hml := mixMDf_len q f k hk
      have hen1 := endDf_ge q (f.take k)
      have hen2 := endDf_le q (f.take k) (fun p hp => HS.out p (List.mem_of_mem_take hp))
      have hen3 : (f.take k).length ≤ 1048576 := by rw [List.length_take]; omega
      have hen4 : (f.take k).length * 2097153 ≤ 1048576 * 2097153 := Nat.mul_le_mul_right _ hen3
      clear hC HP0
      by_cases hlt : k < f.length
      · have hlt2 : (k : Int) < (f.length : Int) := by omega
        have hsk := HS.out f[k] (List.getElem_mem _)
        have hglr : g < wr.heap.size := (hP.row.lt g rfl).2
        have hat := (hP.at_ k (by omega) hlt).2
        have y1 := owns_cell hP.row _ _ hat
        have hen := hP.ents k (by omega) hlt
        rw [mixMDf_get q f k hlt] at hen
        have hsu := endDf_succ q f k hlt
        have hmset := mixMDf_set q f k hlt
        obtain ⟨E, hE⟩ : ∃ E, E = endDf q (f.take k) := ⟨_, rfl⟩
        rw [← hE] at hen1 hen2 hsu hmset ⊢
        have HEN : Hid (OwnD _ _ _ _) := hen
        have HP0 : Hid (PartDf _ _ _ _ _ _ _ _) := hP
        have HSU : Hid _ := hsu
        have HMS : Hid _ := hmset
        have hgw : lo ≤ g := (hP.row.lt g rfl).1
        have hEb : E ≤ 9000000000000 := by omega
        clear hP hat hen hsu hmset hE hen2 hen3 hen4 y1
        go_wp2_with fail
        refine (markText_at E _ (by omega) (by omega) (by omega) _).mono ?_
        rintro e w2 ⟨rfl, hb2⟩
        have hP := HP0.out.next hb2
        have hen2 := owns_below HEN.out hb2
        obtain ⟨z0, y0⟩ := own_there hP.row (k * 2) (by omega)
        have f0 := World.ownsRow.frozenAt hP.row (k * 2)
        have y1 := owns_cell hP.row _ _ (hP.at_ k (by omega) hlt).2
        have hglr2 : g < w2.heap.size := (hP.row.lt g rfl).2
        have hen' : OwnD (w2.setCell ⟨g, k * 2, none⟩ (.string (Tr.mt E))) lo (vs k) f[k].ps := World.ownsRow.kept hen2 grown_set (hP.aside k (by omega) hlt)
        have HM0 := markPartS_any lo (vs k) f[k].ps (E + 1) _ hen' (by omega) (by omega) hsk
        rw [show ((E + 1 : Nat) : Int) = (E : Int) + 1 by omega] at HM0
        have HM : Hid (Calls _ _ _ _ _) := HM0
        have HP : Hid (PartDf _ _ _ _ _ _ _ _) := hP
        have HC2 : Hid (Chg _ _ _ _) := HC.out.trans (Chg.of_below hb2)
        have hz2 := hb2.size
        clear hP hen2 hen' HM0 HP0 HEN hb2 HC
        go_wp2_with fail
        refine HM.out.mono ?_
        rintro e w3 ⟨rfl, hO3, hg3⟩
        have hP3 := HP.out.mark hml hlt hO3 hg3
        rw [HMS.out] at hP3
        have HP3 : Hid (PartDf _ _ _ _ _ _ _ _) := hP3
        have HC3 : Hid (Chg _ _ _ _) := (HC2.out.trans (Chg.of_grown grown_set (fun b hb => by injection hb with hb; subst hb; exact ⟨hgw, HV.out _ rfl⟩))).trans (Chg.of_grown hg3 (fun b hb => ⟨(World.ownsRow.lt hO3 b hb).1, HVS.out k hlt b hb⟩))
        have hz3 := hg3.size
        clear hP3 hO3 hg3 HM HP HC2
        go_wp2_with fail
        go_roundw
        case rel => exact ⟨k + 1, _, by omega, by go_num, by rw [HSU.out]; go_num, HP3.out, HC3.out⟩
        case measure => simp [intOf]; omega
      · obtain rfl : k = f.length := by omega
        rw [mixMDf_full q f _ rfl] at hP
        rw [List.take_length] at *
        have HP : Hid (PartDf _ _ _ _ _ _ _ _) := hP
        clear hP
        go_wp2_with fail
        go_ret
        exact ⟨rfl, ⟨vs, xs, by rw [marksDf_len]; exact HP.out, HV.out, by rw [marksDf_len]; exact HVS.out⟩, HC.out⟩


end Go.Proofs.YtncpijfbbgipaaaGreatDoor.Co

/- The documents that are seen at a time: what the program and the specification answer. -/
namespace Go.Proofs.YtncpijfbbgipaaaGreatDoor.Co
open Go.RowKit Tr
set_option linter.unusedVariables false

/-- The documents of those chains whose version is not gone. -/
def seenG (V : Chn → Ver) (l : List Chn) : List Val := l.flatMap fun x => if (V x).gone then [] else [(V x).doc]
theorem seenG_gone (V : Chn → Ver) (l : List Chn) (k : Nat) (h : k < l.length) (hg : (V l[k]).gone = true) : seenG V (l.take (k + 1)) = seenG V (l.take k) := by
  unfold seenG; rw [List.take_succ_eq_append_getElem h, List.flatMap_append]; simp [hg]
theorem seenG_there (V : Chn → Ver) (l : List Chn) (k : Nat) (h : k < l.length) (hg : (V l[k]).gone = false) : seenG V (l.take (k + 1)) = seenG V (l.take k) ++ [(V l[k]).doc] := by
  unfold seenG; rw [List.take_succ_eq_append_getElem h, List.flatMap_append]; simp [hg]
theorem seenG_len (V : Chn → Ver) : ∀ l : List Chn, (seenG V l).length ≤ l.length
  | [] => by simp [seenG]
  | x :: r => by
    have := seenG_len V r
    unfold seenG at *
    rw [List.flatMap_cons, List.length_append, List.length_cons]
    split <;> simp only [List.length_nil, List.length_cons] <;> omega
theorem seenG_congr (V U : Chn → Ver) : ∀ l : List Chn, (∀ x ∈ l, V x = U x) → seenG V l = seenG U l
  | [], _ => rfl
  | x :: r, h => by
    unfold seenG
    rw [List.flatMap_cons, List.flatMap_cons, h x (by simp)]
    congr 1
    exact seenG_congr V U r (fun y hy => h y (by simp [hy]))
/-- The answer of SeenAt: the documents, and a code. -/
def seenR (c : Col) (snap : Int) : List Val × Int := if collB c = true then (seenG (fun x => (trP snap x.vs).1) c.chs, 0) else ([], 1)
theorem seenR_bad (c : Col) (snap : Int) (h : collB c = false) : seenR c snap = ([], 1) := by unfold seenR; rw [h]; rfl
theorem seenR_ok (c : Col) (snap : Int) (h : collB c = true) : seenR c snap = (seenG (fun x => (trP snap x.vs).1) c.chs, 0) := by unfold seenR; rw [if_pos h]
structure SeenA (L : List Val × Int) (w : World) (e : Ending) (w' : World) : Prop where
  out : ∃ v, e = .returned (.tuple #[v, .int .i64 L.2]) ∧ w'.ownsRow w.heap.size 39 3 v L.1.length (flat L.1)
  bel : Below w.heap.size w w'
theorem trP_sz {c : Col} (h : SzCol c) {x : Chn} (hx : x ∈ c.chs) (snap : Int) : (trP snap x.vs).1.doc.t.size ≤ 1048576 := by
  rcases (trk_mem snap x.vs zG).1 with e | e
  · show (trk snap zG x.vs).1.doc.t.size ≤ _
    rw [e]; show em.size ≤ _; simp [ByteArray.size]
  · exact szVr_of h hx e
theorem boxed_grown {w W W' : World} {a b c : Value} {row : Option Nat} (h : Boxed w W a b c) (hg : W.grownBy W' row) (hr : ∀ j, row = some j → w.heap.size < j) : Boxed w W' a b c :=
  have hb := hg.block w.heap.size h.lt (fun e => by have := hr _ e.symm; omega)
  ⟨Below.grown h.bel hg h.bel.size (fun j hj => Nat.le_of_lt (hr j hj)), Nat.lt_of_lt_of_le h.lt hg.size, (World.cell?_of_block hb).trans h.c0, (World.cell?_of_block hb).trans h.c1, (World.cell?_of_block hb).trans h.c2⟩
/-- A track in its block. -/
structure V6 (U : World) (b : Nat) (v : Ver) (s : Value) : Prop where
  lt : b < U.heap.size
  cb : U.heap[b]? = some (.cells #[.int .i64 v.tm, .bool v.gone, .int .i64 v.doc.k, .int .i64 v.doc.n, .string v.doc.t, s] 71)
theorem V6.new (U : World) (v : Ver) (s : Value) : V6 (U.alloc (.cells #[.int .i64 v.tm, .bool v.gone, .int .i64 v.doc.k, .int .i64 v.doc.n, .string v.doc.t, s] 71)) U.heap.size v s := ⟨by simp, heap_alloc_new _ _⟩

end Go.Proofs.YtncpijfbbgipaaaGreatDoor.Co

/- Marks on collections and on rows of values: what the laws' helpers answer, and which memory they change. -/
namespace Go.Proofs.YtncpijfbbgipaaaGreatDoor.Co
open Go.RowKit Tr
set_option linter.unusedVariables false

/-- Values that are an answer's own. -/
def OV (w : World) (base : Nat) (v : Value) (l : List Val) : Prop := w.ownsRow base 39 3 v l.length (flat l)
/-- Values that can be read. -/
def RV (w : World) (v : Value) (l : List Val) : Prop := ∃ p cap, v = .slice p l.length cap ∧ (l = [] ∨ ∃ g, p = some ⟨g, 0, none⟩ ∧ ReadV w g l)
theorem OV.rv {w : World} {base : Nat} {v : Value} {l : List Val} (h : OV w base v l) : RV w v l := by
  have h' := h
  obtain ⟨_, h2⟩ := h
  rcases h2 with ⟨h2, h3⟩ | ⟨g, cap, cur, hv, _⟩
  · have h4 := List.length_eq_zero_iff.1 h3
    subst h4
    exact ⟨none, 0, h2, .inl rfl⟩
  · subst hv
    exact ⟨_, cap, rfl, .inr ⟨g, rfl, ReadV.of_own h'⟩⟩
theorem RV.next {w w' : World} {v : Value} {l : List Val} (h : RV w v l) (hb : Below w.heap.size w w') : RV w' v l := by
  obtain ⟨p, cap, e, h⟩ := h
  rcases h with h | ⟨g, hp, h⟩
  · exact ⟨p, cap, e, .inl h⟩
  · exact ⟨p, cap, e, .inr ⟨g, hp, h.next hb⟩⟩
/-- Values that lie in blocks below a number can still be read where only later blocks have changed. -/
def RVB (w : World) (B : Nat) (v : Value) (l : List Val) : Prop := ∃ p cap, v = .slice p l.length cap ∧ (l = [] ∨ ∃ g, p = some ⟨g, 0, none⟩ ∧ g < B ∧ ReadV w g l)
theorem OV.rvb {w : World} {base : Nat} {v : Value} {l : List Val} (h : OV w base v l) : RVB w w.heap.size v l := by
  have hlt := World.ownsRow.lt h
  obtain ⟨p, cap, e, h⟩ := h.rv
  rcases h with h | ⟨g, hp, h⟩
  · exact ⟨p, cap, e, .inl h⟩
  · exact ⟨p, cap, e, .inr ⟨g, hp, h.lt, h⟩⟩
theorem RVB.step {w w' : World} {B : Nat} {v : Value} {l : List Val} (h : RVB w B v l) (hb : Below B w w') : RVB w' B v l := by
  obtain ⟨p, cap, e, h⟩ := h
  rcases h with h | ⟨g, hp, hg, h⟩
  · exact ⟨p, cap, e, .inl h⟩
  · exact ⟨p, cap, e, .inr ⟨g, hp, hg, h.step hb hg⟩⟩
theorem RVB.rv {w : World} {B : Nat} {v : Value} {l : List Val} (h : RVB w B v l) : RV w v l := by
  obtain ⟨p, cap, e, h⟩ := h
  rcases h with h | ⟨g, hp, _, h⟩
  · exact ⟨p, cap, e, .inl h⟩
  · exact ⟨p, cap, e, .inr ⟨g, hp, h⟩⟩
theorem OV.next {w w' : World} {base : Nat} {v : Value} {l : List Val} (h : OV w base v l) (hb : Below w.heap.size w w') : OV w' base v l := owns_below h hb
theorem OV.chg {w w' : World} {base lo hi : Nat} {v : Value} {l : List Val} (h : OV w base v l) (hc : Chg lo hi w w') (hb : hi ≤ base) : OV w' base v l :=
  hc.owns h (fun g hg => .inr (Nat.le_trans hb (World.ownsRow.lt h g hg).1))

set_option maxRecDepth 4000 in
set_option maxHeartbeats 2000000 in
theorem markColl_any (n : ByteArray) (lo mid hi : Nat) (v1 v2 : Value) (chs : List Chn) (dfs : List Dfn) (w : World) (h1 : OwnChH w lo mid v1 chs) (h2 : OwnDfH w mid hi v2 dfs) (hlm : lo ≤ mid) (hmh : mid ≤ hi) (hlo : hi ≤ w.heap.size) (hcl : chs.length ≤ 1048576) (hcs : ∀ p ∈ chs, p.vs.length ≤ 1048576) (hdl : dfs.length ≤ 1048576) (hds : ∀ p ∈ dfs, p.ps.length ≤ 1048576) :
    Calls Tryz.prog 12 #[.agg #[.string n, v1, v2], .int .i64 1] w fun e w' => e = .returned (.int .i64 ((endDf (endCh 1 chs) dfs : Nat) : Int)) ∧ OwnChH w' lo mid v1 (marksCh 1 chs) ∧ OwnDfH w' mid hi v2 (marksDf (endCh 1 chs) dfs) ∧ Chg lo hi w w' := by
  have X0 := Boxed.start w (.string n) v1 v2 35
  have HC : Hid (Calls _ _ _ _ _) := markChainS_any lo mid v1 chs 1 _ (h1.next X0.bel) (by omega) (by omega) hcl hcs
  have hen := endCh_le 1 chs hcs
  have hen1 := endCh_ge 1 chs
  have hen4 : chs.length * 5242881 ≤ 1048576 * 5242881 := Nat.mul_le_mul_right _ hcl
  have H2 : Hid (OwnDfH _ _ _ _ _) := h2.next X0.bel
  have HD : Hid (∀ W : World, OwnDfH W mid hi v2 dfs → Calls _ _ _ W _) := fun W hW => markDefS_any mid hi v2 dfs (endCh 1 chs) W hW hen1 (by omega) hdl hds
  obtain ⟨E, hE⟩ : ∃ E, E = endCh 1 chs := ⟨_, rfl⟩
  rw [← hE] at HC HD hen hen1 ⊢
  have hEb : E ≤ 6000000000000 := by omega
  obtain ⟨M, hM⟩ : ∃ M, M = endDf E dfs := ⟨_, rfl⟩
  rw [← hM] at HD ⊢
  have hMb : M ≤ 17592186044416 := by
    have a1 := endDf_le E dfs hds
    have a2 : dfs.length * 2097153 ≤ 1048576 * 2097153 := Nat.mul_le_mul_right _ hdl
    omega
  clear h1 h2 hcs hds hE hen hen4 hM
  go_enter Tryz.func12, Tryz.ntmps12
  go_wp2_with fail
  refine HC.out.mono ?_
  rintro e w1 ⟨rfl, hO, hc⟩
  have hbx : Below (w.heap.size + 1) w1 w1 := Below.refl _ _
  have hsz : (w.alloc (.cells #[.string n, v1, v2] 35)).heap.size = w.heap.size + 1 := by simp
  have cells : ∀ o, w1.cell? ⟨w.heap.size, o, none⟩ = (w.alloc (.cells #[.string n, v1, v2] 35)).cell? ⟨w.heap.size, o, none⟩ := fun o => hc.cell (by rw [hsz]; omega) (.inr (by omega))
  have c2 := (cells 2).trans X0.c2
  have HO : Hid (OwnChH _ _ _ _ _) := hO
  have HB : Hid (Chg lo hi w w1) := (Chg.of_below X0.bel).trans ⟨hc.os, hc.tape, hc.output, hc.size, fun k hk ho => hc.block k hk (by omega)⟩
  have HD2 : Hid (OwnDfH _ _ _ _ _) := H2.out.chg hc (.inr (Nat.le_refl _))
  clear hO hc HC cells X0 H2 hbx hsz
  go_wp2_with fail
  refine (HD.out _ HD2.out).mono ?_
  rintro e w2 ⟨rfl, hO2, hc2⟩
  have HO2 : Hid (OwnDfH _ _ _ _ _) := hO2
  have HO1 : Hid (OwnChH _ _ _ _ _) := HO.out.chg hc2 (.inl (Nat.le_refl _))
  have HB2 : Hid (Chg lo hi w w2) := HB.out.trans ⟨hc2.os, hc2.tape, hc2.output, hc2.size, fun k hk ho => hc2.block k hk (by omega)⟩
  clear hO2 hc2 HD HD2 HO HB c2
  go_wp2_with fail
  go_ret
  exact ⟨rfl, HO1.out, HO2.out, HB2.out⟩

end Go.Proofs.YtncpijfbbgipaaaGreatDoor.Co

/- Marks that are held: what the laws' helpers on versions, parts, chains, definitions and collections answer. -/
namespace Go.Proofs.YtncpijfbbgipaaaGreatDoor.Co
open Go.RowKit Tr
set_option linter.unusedVariables false

set_option maxRecDepth 4000 in
set_option maxHeartbeats 2000000 in
theorem heldVersionS_any (a : Option Addr) (c n : Nat) (q : Nat) (w : World) (hr : InVr w a (marksVr q n)) (h1 : 1 ≤ q) (h2 : q + 5 * n ≤ 17592186044416) (hl : n ≤ 1048576) :
    Calls Tryz.prog 68 #[.slice a n c, .int .i64 q] w fun e w' => e = .returned (.int .i64 ((q + 5 * n : Nat) : Int)) ∧ Below w.heap.size w w' := by
  have HR : Hid (InVr _ _ _) := hr
  clear hr
  go_enter Tryz.func68, Tryz.ntmps68
  go_wp2_with fail
  go_loopw [1, 5] (fun x i wr => ∃ k E : Nat, k ≤ n ∧ i = .int .i64 k ∧ x = .int .i64 (E : Int) ∧ E = q + 5 * k ∧ Below w.heap.size w wr) (fun _ i _ => n - (intOf i).toNat)
  case atStart => exact ⟨0, q, Nat.zero_le _, rfl, rfl, by omega, Below.refl _ _⟩
  case round =>
    obtain ⟨k, E, hk, rfl, rfl, hE, hbel⟩ := hrel
    have hz := hbel.size
    by_cases hlt : k < n
    · rcases HR.out.step hbel with h0 | ⟨g, o1, rfl, l1, x⟩
      · rw [marksVr_len] at h0; omega
      have x' := x k (by rw [marksVr_len]; exact hlt)
      simp only [marksVr_get] at x'
      rw [← hE] at x'
      have hk1 : (k : Int) < (n : Int) := by omega
      obtain ⟨B, hB⟩ : ∃ B : Bool, B = boolM ((E : Int) + 1) := ⟨_, rfl⟩
      have hB' : (((E : Int) + 1) % 3 == 0) = B := by rw [hB]; rfl
      have hT' : Int.tmod ((E : Int) + 1) 3 = ((E : Int) + 1) % 3 := Int.tmod_eq_emod_of_nonneg (by omega)
      have HEQ : Hid (E = q + 5 * k) := hE
      have hEb : E ≤ 17592186044411 := by omega
      have hE1 : 1 ≤ E := by omega
      obtain ⟨x0, x1, x2, x3, x4⟩ := x'
      replace x0 : wr.cell? ⟨g, o1 + k * 5, none⟩ = some (.int .i64 (E : Int)) := x0
      replace x1 : wr.cell? ⟨g, o1 + k * 5 + 1, none⟩ = some (.bool B) := by rw [hB]; exact x1
      replace x2 : wr.cell? ⟨g, o1 + k * 5 + 2, none⟩ = some (.int .i64 ((E : Int) + 1 + 1)) := x2
      replace x3 : wr.cell? ⟨g, o1 + k * 5 + 3, none⟩ = some (.int .i64 ((E : Int) + 1 + 1 + 1)) := x3
      obtain ⟨T, hT⟩ : ∃ T, T = Tr.mt (E + 4) := ⟨_, rfl⟩
      replace x4 : wr.cell? ⟨g, o1 + k * 5 + 4, none⟩ = some (.string T) := by rw [hT]; exact x4
      have HM : Hid (∀ (z : Int) (_ : z = ((E + 4 : Nat) : Int)) (W : World), Calls Tryz.prog 66 #[.int .i64 z] W fun e w' => e = .returned (.string T) ∧ Below W.heap.size W w') := fun z hz W => by rw [hT]; exact markText_at (E + 4) z hz (by omega) (by omega) W
      clear hT
      clear x hB hE
      have hnu : Nonempty (Under wr) := ⟨⟨wr, Below.refl _ _⟩⟩
      have q4 : ∀ u : Under wr, u.x.cell? ⟨g, o1 + k * 5 + 4, none⟩ = some (.string T) := fun u => (u.h.cell l1).trans x4
      go_wp2_with fail
      refine wp_region_under (by kernel_rfl) (by kernel_rfl) ?_
      repeat (go_big_quiet_step ((go_at_call 66; exact calls_under _ (HM.out _ (by omega) _))))
      refine wpQuiet_nil ?_
      rintro _ ⟨u, rfl⟩
      go_wp2_with fail
      go_roundw
      case rel => exact ⟨k + 1, E + 5, by omega, by go_num, by go_num, by have := HEQ.out; omega, hbel.trans (u.h.mono hbel.size)⟩
      case measure => simp [intOf]; omega
    · obtain rfl : k = n := by omega
      subst hE
      go_wp2_with fail
      go_ret
      exact ⟨rfl, hbel⟩
set_option maxRecDepth 4000 in
set_option maxHeartbeats 2000000 in
theorem heldPartS_any (a : Option Addr) (c n : Nat) (q : Nat) (w : World) (hr : InD w a (marksPt q n)) (h1 : 1 ≤ q) (h2 : q + 2 * n ≤ 17592186044416) (hl : n ≤ 1048576) :
    Calls Tryz.prog 69 #[.slice a n c, .int .i64 q] w fun e w' => e = .returned (.int .i64 ((q + 2 * n : Nat) : Int)) ∧ Below w.heap.size w w' := by
  have HR : Hid (InD _ _ _) := hr
  clear hr
  go_enter Tryz.func69, Tryz.ntmps69
  go_wp2_with fail
  go_loopw [1, 5] (fun x i wr => ∃ k E : Nat, k ≤ n ∧ i = .int .i64 k ∧ x = .int .i64 (E : Int) ∧ E = q + 2 * k ∧ Below w.heap.size w wr) (fun _ i _ => n - (intOf i).toNat)
  case atStart => exact ⟨0, q, Nat.zero_le _, rfl, rfl, by omega, Below.refl _ _⟩
  case round =>
    obtain ⟨k, E, hk, rfl, rfl, hE, hbel⟩ := hrel
    have hz := hbel.size
    by_cases hlt : k < n
    · rcases HR.out.step hbel with h0 | ⟨g, o1, rfl, l1, x⟩
      · rw [marksPt_len] at h0; omega
      have x' := x k (by rw [marksPt_len]; exact hlt)
      simp only [marksPt_get] at x'
      rw [← hE] at x'
      have hk1 : (k : Int) < (n : Int) := by omega
      obtain ⟨B, hB⟩ : ∃ B : Bool, B = boolM ((E : Int) + 1) := ⟨_, rfl⟩
      have hB' : (((E : Int) + 1) % 3 == 0) = B := by rw [hB]; rfl
      have hT' : Int.tmod ((E : Int) + 1) 3 = ((E : Int) + 1) % 3 := Int.tmod_eq_emod_of_nonneg (by omega)
      have HEQ : Hid (E = q + 2 * k) := hE
      have hEb : E ≤ 17592186044414 := by omega
      have hE1 : 1 ≤ E := by omega
      obtain ⟨x0, x1⟩ := x'
      obtain ⟨T, hT⟩ : ∃ T, T = Tr.mt E := ⟨_, rfl⟩
      replace x0 : wr.cell? ⟨g, o1 + k * 2, none⟩ = some (.string T) := by rw [hT]; exact x0
      replace x1 : wr.cell? ⟨g, o1 + k * 2 + 1, none⟩ = some (.bool B) := by rw [hB]; exact x1
      have HM : Hid (∀ (W : World), Calls Tryz.prog 66 #[.int .i64 (E : Int)] W fun e w' => e = .returned (.string T) ∧ Below W.heap.size W w') := fun W => by rw [hT]; exact markText_at E _ rfl (by omega) (by omega) W
      clear hT
      clear x hB hE
      have hnu : Nonempty (Under wr) := ⟨⟨wr, Below.refl _ _⟩⟩
      have q0 : ∀ u : Under wr, u.x.cell? ⟨g, o1 + k * 2, none⟩ = some (.string T) := fun u => (u.h.cell l1).trans x0
      have q1 : ∀ u : Under wr, u.x.cell? ⟨g, o1 + k * 2 + 1, none⟩ = some (.bool B) := fun u => (u.h.cell l1).trans x1
      go_wp2_with fail
      refine wp_region_under (by kernel_rfl) (by kernel_rfl) ?_
      repeat (go_big_quiet_step ((go_at_call 66; exact calls_under _ (HM.out _))))
      refine wpQuiet_nil ?_
      rintro _ ⟨u, rfl⟩
      have q2 := q1 u
      go_wp2_with fail
      go_roundw
      case rel => exact ⟨k + 1, E + 2, by omega, by go_num, by go_num, by have := HEQ.out; omega, hbel.trans (u.h.mono hbel.size)⟩
      case measure => simp [intOf]; omega
    · obtain rfl : k = n := by omega
      subst hE
      go_wp2_with fail
      go_ret
      exact ⟨rfl, hbel⟩

set_option maxRecDepth 4000 in
set_option maxHeartbeats 2000000 in
theorem heldChainS_any (a : Option Addr) (c : Nat) (f : List Chn) (q : Nat) (w : World) (hr : RowCh w a (marksCh q f)) (h1 : 1 ≤ q) (h2 : q ≤ 1000) (hl : f.length ≤ 1048576) (hs : ∀ p ∈ f, p.vs.length ≤ 1048576) :
    Calls Tryz.prog 36 #[.slice a f.length c, .int .i64 q] w fun e w' => e = .returned (.int .i64 ((endCh q f : Nat) : Int)) ∧ Below w.heap.size w w' := by
  have HR : Hid (RowCh _ _ _) := hr
  have HS : Hid _ := hs
  clear hr hs
  go_enter Tryz.func36, Tryz.ntmps36
  go_wp2_with fail
  go_loopw [1, 5] (fun x i wr => ∃ k : Nat, k ≤ f.length ∧ i = .int .i64 k ∧ x = .int .i64 ((endCh q (f.take k) : Nat) : Int) ∧ Below w.heap.size w wr) (fun _ i _ => f.length - (intOf i).toNat)
  case atStart => exact ⟨0, Nat.zero_le _, rfl, rfl, Below.refl _ _⟩
  case round =>
    obtain ⟨k, hk, rfl, rfl, hbel⟩ := hrel
    have hz := hbel.size
    have hen1 := endCh_ge q (f.take k)
    have hen2 := endCh_le q (f.take k) (fun p hp => HS.out p (List.mem_of_mem_take hp))
    have hen3 : (f.take k).length ≤ 1048576 := by rw [List.length_take]; omega
    have hen4 : (f.take k).length * 5242881 ≤ 1048576 * 5242881 := Nat.mul_le_mul_right _ hen3
    by_cases hlt : k < f.length
    · rcases HR.out.next hbel with h0 | ⟨g, rfl, R⟩
      · rw [← List.length_eq_zero_iff, marksCh_len] at h0; omega
      have hlt2 : (k : Int) < (f.length : Int) := by omega
      have hsk := HS.out f[k] (List.getElem_mem _)
      have hkm : k < (marksCh q f).length := by rw [marksCh_len]; exact hlt
      obtain ⟨x0, pa, ca, x1, t1⟩ := R.cells k hkm
      have hget : (marksCh q f)[k] = ⟨(endCh q (f.take k) : Nat), marksVr (endCh q (f.take k) + 1) f[k].vs.length⟩ := by
        have e : (marksCh q f)[k]? = some ⟨(endCh q (f.take k) : Nat), marksVr (endCh q (f.take k) + 1) f[k].vs.length⟩ := by
          conv => lhs; rw [← List.take_append_drop k f, marksCh_app]
          have hl' : (marksCh q (f.take k)).length = k := by rw [marksCh_len, List.length_take]; omega
          rw [List.getElem?_append_right (by omega), hl', Nat.sub_self, List.drop_eq_getElem_cons hlt]; rfl
        rw [List.getElem?_eq_getElem hkm] at e
        exact Option.some.inj e
      rw [hget] at x0 x1 t1
      simp only [marksVr_len] at x0 x1 t1
      have hsu := endCh_succ q f k hlt
      obtain ⟨E, hE⟩ : ∃ E, E = endCh q (f.take k) := ⟨_, rfl⟩
      rw [← hE] at hen1 hen2 hsu x0 t1 ⊢
      have HM0 := heldVersionS_any pa ca f[k].vs.length (E + 1) wr t1 (by omega) (by omega) hsk
      rw [show ((E + 1 : Nat) : Int) = (E : Int) + 1 by omega] at HM0
      have HM : Hid (Calls _ _ _ _ _) := HM0
      have HSU : Hid _ := hsu
      have hEb : E ≤ 6000000000000 := by omega
      clear R t1 hget hsu hE hen2 hen3 hen4 HM0
      go_wp2_with fail
      refine HM.out.mono ?_
      rintro e w3 ⟨rfl, hb3⟩
      have hb4 := hbel.trans (hb3.mono hbel.size)
      clear hb3 HM
      go_wp2_with fail
      go_roundw
      case rel => exact ⟨k + 1, by omega, by go_num, by rw [HSU.out]; go_num, hb4⟩
      case measure => simp [intOf]; omega
    · obtain rfl : k = f.length := by omega
      rw [List.take_length] at *
      go_wp2_with fail
      go_ret
      exact ⟨rfl, hbel⟩


set_option maxRecDepth 4000 in
set_option maxHeartbeats 2000000 in
theorem heldDefS_any (a : Option Addr) (c : Nat) (f : List Dfn) (q : Nat) (w : World) (hr : RowDf w a (marksDf q f)) (h1 : 1 ≤ q) (h2 : q ≤ 6000000000000) (hl : f.length ≤ 1048576) (hs : ∀ p ∈ f, p.ps.length ≤ 1048576) :
    Calls Tryz.prog 37 #[.slice a f.length c, .int .i64 q] w fun e w' => e = .returned (.int .i64 ((endDf q f : Nat) : Int)) ∧ Below w.heap.size w w' := by
  have HR : Hid (RowDf _ _ _) := hr
  have HS : Hid _ := hs
  clear hr hs
  go_enter Tryz.func37, Tryz.ntmps37
  go_wp2_with fail
  go_loopw [1, 5] (fun x i wr => ∃ k : Nat, k ≤ f.length ∧ i = .int .i64 k ∧ x = .int .i64 ((endDf q (f.take k) : Nat) : Int) ∧ Below w.heap.size w wr) (fun _ i _ => f.length - (intOf i).toNat)
  case atStart => exact ⟨0, Nat.zero_le _, rfl, rfl, Below.refl _ _⟩
  case round =>
    obtain ⟨k, hk, rfl, rfl, hbel⟩ := hrel
    have hz := hbel.size
    have hen1 := endDf_ge q (f.take k)
    have hen2 := endDf_le q (f.take k) (fun p hp => HS.out p (List.mem_of_mem_take hp))
    have hen3 : (f.take k).length ≤ 1048576 := by rw [List.length_take]; omega
    have hen4 : (f.take k).length * 2097153 ≤ 1048576 * 2097153 := Nat.mul_le_mul_right _ hen3
    by_cases hlt : k < f.length
    · rcases HR.out.next hbel with h0 | ⟨g, rfl, R⟩
      · rw [← List.length_eq_zero_iff, marksDf_len] at h0; omega
      have hlt2 : (k : Int) < (f.length : Int) := by omega
      have hsk := HS.out f[k] (List.getElem_mem _)
      have hkm : k < (marksDf q f).length := by rw [marksDf_len]; exact hlt
      obtain ⟨x0, pa, ca, x1, _, t1'⟩ := R.cells k hkm
      have t1 := RowD.inD t1'
      clear t1'
      have hget : (marksDf q f)[k] = ⟨Tr.mt (endDf q (f.take k)), marksPt (endDf q (f.take k) + 1) f[k].ps.length⟩ := by
        have e : (marksDf q f)[k]? = some ⟨Tr.mt (endDf q (f.take k)), marksPt (endDf q (f.take k) + 1) f[k].ps.length⟩ := by
          conv => lhs; rw [← List.take_append_drop k f, marksDf_app]
          have hl' : (marksDf q (f.take k)).length = k := by rw [marksDf_len, List.length_take]; omega
          rw [List.getElem?_append_right (by omega), hl', Nat.sub_self, List.drop_eq_getElem_cons hlt]; rfl
        rw [List.getElem?_eq_getElem hkm] at e
        exact Option.some.inj e
      rw [hget] at x0 x1 t1
      simp only [marksPt_len] at x0 x1 t1
      have hsu := endDf_succ q f k hlt
      obtain ⟨E, hE⟩ : ∃ E, E = endDf q (f.take k) := ⟨_, rfl⟩
      rw [← hE] at hen1 hen2 hsu x0 t1 ⊢
      have HM : Hid (∀ W : World, Below wr.heap.size wr W → Calls Tryz.prog 69 #[.slice pa f[k].ps.length ca, .int .i64 ((E : Int) + 1)] W fun e w' => e = .returned (.int .i64 ((E + 1 + 2 * f[k].ps.length : Nat) : Int)) ∧ Below W.heap.size W w') := fun W hW => heldPartS_any pa ca f[k].ps.length (E + 1) W (t1.step hW) (by omega) (by omega) hsk
      have HSU : Hid _ := hsu
      have hEb : E ≤ 9000000000000 := by omega
      have hgl := R.lt
      obtain ⟨T, hT⟩ : ∃ T, T = Tr.mt E := ⟨_, rfl⟩
      rw [← hT] at x0
      have HMT : Hid (∀ (W : World), Calls Tryz.prog 66 #[.int .i64 (E : Int)] W fun e w' => e = .returned (.string T) ∧ Below W.heap.size W w') := fun W => by rw [hT]; exact markText_at E _ rfl (by omega) (by omega) W
      have r0 : ∀ u : Under wr, u.x.cell? ⟨g, k * 2, none⟩ = some (.string T) := fun u => (u.h.cell hgl).trans x0
      have r1 : ∀ u : Under wr, u.x.cell? ⟨g, k * 2 + 1, none⟩ = some (.slice pa f[k].ps.length ca) := fun u => (u.h.cell hgl).trans x1
      have hnu : Nonempty (Under wr) := ⟨⟨wr, Below.refl _ _⟩⟩
      clear R t1 hget hsu hE hen2 hen3 hen4 hT
      go_wp2_with fail
      refine wp_region_under (by kernel_rfl) (by kernel_rfl) ?_
      repeat (go_big_quiet_step ((go_at_call 66; exact calls_under _ (HMT.out _))))
      refine wpQuiet_nil ?_
      rintro _ ⟨u, rfl⟩
      have s1 := r1 u
      go_wp2_with fail
      refine (HM.out _ u.h).mono ?_
      rintro e w3 ⟨rfl, hb3'⟩
      have hb3 := u.h.trans (hb3'.mono u.h.size)
      clear hb3'
      have hb4 := hbel.trans (hb3.mono hbel.size)
      clear hb3 HM
      go_wp2_with fail
      go_roundw
      case rel => exact ⟨k + 1, by omega, by go_num, by rw [HSU.out]; go_num, hb4⟩
      case measure => simp [intOf]; omega
    · obtain rfl : k = f.length := by omega
      rw [List.take_length] at *
      go_wp2_with fail
      go_ret
      exact ⟨rfl, hbel⟩


set_option maxRecDepth 4000 in
set_option maxHeartbeats 2000000 in
theorem heldColl_any (n : ByteArray) (p q : Option Addr) (c d : Nat) (chs : List Chn) (dfs : List Dfn) (w : World) (h1 : RowCh w p (marksCh 1 chs)) (h2 : RowDf w q (marksDf (endCh 1 chs) dfs)) (hcl : chs.length ≤ 1048576) (hcs : ∀ p ∈ chs, p.vs.length ≤ 1048576) (hdl : dfs.length ≤ 1048576) (hds : ∀ p ∈ dfs, p.ps.length ≤ 1048576) :
    Calls Tryz.prog 13 #[.agg #[.string n, .slice p chs.length c, .slice q dfs.length d], .int .i64 1] w fun e w' => e = .returned (.int .i64 ((endDf (endCh 1 chs) dfs : Nat) : Int)) ∧ Below w.heap.size w w' := by
  have X0 := Boxed.start w (.string n) (.slice p chs.length c) (.slice q dfs.length d) 35
  have HC : Hid (Calls _ _ _ _ _) := heldChainS_any p c chs 1 _ (h1.next X0.bel) (by omega) (by omega) hcl hcs
  have hen := endCh_le 1 chs hcs
  have hen1 := endCh_ge 1 chs
  have hen4 : chs.length * 5242881 ≤ 1048576 * 5242881 := Nat.mul_le_mul_right _ hcl
  have HD : Hid (∀ W : World, Below w.heap.size w W → Calls _ _ _ W _) := fun W hW => heldDefS_any q d dfs (endCh 1 chs) W (h2.next hW) hen1 (by omega) hdl hds
  obtain ⟨E, hE⟩ : ∃ E, E = endCh 1 chs := ⟨_, rfl⟩
  rw [← hE] at HC HD hen hen1 ⊢
  have hEb : E ≤ 6000000000000 := by omega
  have hE0 : ¬ ((E : Nat) : Int) < 0 := by omega
  obtain ⟨M, hM⟩ : ∃ M, M = endDf E dfs := ⟨_, rfl⟩
  rw [← hM] at HD ⊢
  have hM0 : ¬ ((M : Nat) : Int) < 0 := by omega
  clear h1 h2 hcs hds hE hen hen4 hM
  go_enter Tryz.func13, Tryz.ntmps13
  go_wp2_with fail
  refine HC.out.mono ?_
  rintro e w1 ⟨rfl, hb⟩
  have X1 := X0.step hb
  have c2 := X1.c2
  clear hb HC X0
  go_wp2_with fail
  refine (HD.out _ X1.bel).mono ?_
  rintro e w2 ⟨rfl, hb⟩
  have hbw := (X1.step hb).bel
  clear hb HD
  go_wp2_with fail
  go_ret
  exact ⟨rfl, hbw⟩

end Go.Proofs.YtncpijfbbgipaaaGreatDoor.Co
