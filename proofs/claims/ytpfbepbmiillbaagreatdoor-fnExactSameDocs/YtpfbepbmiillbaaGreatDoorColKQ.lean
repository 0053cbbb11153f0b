/- The newest version up to a time, and of an id: what the specification answers. -/
import Derived.Test.YtpfbepbmiillbaaGreatDoorColNQ
import Derived.Test.YtpfbepbmiillbaaGreatDoorRowVQ
import Derived.Test.YtpfbepbmiillbaaGreatDoorDocBQ
namespace Go.Proofs.YtpfbepbmiillbaaGreatDoor.Co
open Go.RowKit Tr
set_option linter.unusedVariables false

theorem atS_take (time : Int) (l : List Ver) (k : Nat) (h : k < l.length) : atS time zG (l.take (k + 1)) = if l[k].tm ≤ time then l[k] else atS time zG (l.take k) := by
  unfold atS; rw [List.take_succ_eq_append_getElem h, List.foldl_append]; rfl
/-- What came in, the answer's own place, and what is found so far. -/
structure AtB (w W : World) (id : Int) (s : Value) (cur : Ver) : Prop where
  bel : Below w.heap.size w W
  lt : w.heap.size + 2 < W.heap.size
  xb : W.heap[w.heap.size]? = some (.cells #[.int .i64 id, s] 66)
  rb : W.heap[w.heap.size + 1]? = some (.cells #[.int .i64 0, .bool false, .int .i64 0, .int .i64 0, .string em] 70)
  ob : W.heap[w.heap.size + 2]? = some (.cells #[.int .i64 cur.tm, .bool cur.gone, .int .i64 cur.doc.k, .int .i64 cur.doc.n, .string cur.doc.t] 70)
theorem two {W : World} {b : Nat} {T : TypeId} {v0 v1 : Value} (h : W.heap[b]? = some (.cells #[v0, v1] T)) : W.cell? ⟨b, 0, none⟩ = some v0 ∧ W.cell? ⟨b, 1, none⟩ = some v1 := by
  refine ⟨?_, ?_⟩ <;> simp [World.cell?, h]
theorem AtB.put {w W : World} {id : Int} {s : Value} {cur : Ver} (h : AtB w W id s cur) (v : Ver) :
    AtB w (((((W.setCell ⟨w.heap.size + 2, 0, none⟩ (.int .i64 v.tm)).setCell ⟨w.heap.size + 2, 1, none⟩ (.bool v.gone)).setCell ⟨w.heap.size + 2, 2, none⟩ (.int .i64 v.doc.k)).setCell ⟨w.heap.size + 2, 3, none⟩ (.int .i64 v.doc.n)).setCell ⟨w.heap.size + 2, 4, none⟩ (.string v.doc.t)) id s v := by
  refine ⟨?_, by simpa [World.setCell] using h.lt, ?_, ?_, ?_⟩
  · have hb := h.bel
    exact ((((hb.setCell (by show w.heap.size ≤ w.heap.size + 2; omega) _).setCell (by show w.heap.size ≤ w.heap.size + 2; omega) _).setCell (by show w.heap.size ≤ w.heap.size + 2; omega) _).setCell (by show w.heap.size ≤ w.heap.size + 2; omega) _).setCell (by show w.heap.size ≤ w.heap.size + 2; omega) _
  · rw [set_other (by omega), set_other (by omega), set_other (by omega), set_other (by omega), set_other (by omega)]; exact h.xb
  · rw [set_other (by omega), set_other (by omega), set_other (by omega), set_other (by omega), set_other (by omega)]; exact h.rb
  · rw [set_same (set_same (set_same (set_same (set_same h.ob))))]; rfl
theorem AtB.start (w : World) (id : Int) (s : Value) : AtB w (((w.alloc (.cells #[.int .i64 id, s] 66)).alloc (.cells #[.int .i64 0, .bool false, .int .i64 0, .int .i64 0, .string em] 70)).alloc (.cells #[.int .i64 0, .bool true, .int .i64 0, .int .i64 0, .string em] 70)) id s zG := by
  refine ⟨((Below.refl _ _).alloc (Nat.le_refl _) _ |>.alloc (by simp) _).alloc (by simp; omega) _, by simp, ?_, ?_, ?_⟩
  · rw [heap_alloc_old _ _ (by simp; omega), heap_alloc_old _ _ (by simp)]; exact heap_alloc_new _ _
  · rw [heap_alloc_old _ _ (by simp)]
    have := heap_alloc_new (w.alloc (.cells #[.int .i64 id, s] 66)) (.cells #[.int .i64 0, .bool false, .int .i64 0, .int .i64 0, .string em] 70)
    rw [heap_size_alloc] at this; exact this
  · have := heap_alloc_new ((w.alloc (.cells #[.int .i64 id, s] 66)).alloc (.cells #[.int .i64 0, .bool false, .int .i64 0, .int .i64 0, .string em] 70)) (.cells #[.int .i64 0, .bool true, .int .i64 0, .int .i64 0, .string em] 70)
    rw [heap_size_alloc, heap_size_alloc] at this; exact this

set_option maxRecDepth 4000 in
set_option maxHeartbeats 1000000 in
theorem l08At_any (id time : Int) (p : Option Addr) (cap : Nat) (l : List Ver) (w : World) (hin : InVr w p l) (hl : l.length ≤ 1048576) :
    Calls Tryz.prog 87 #[.agg #[.int .i64 id, .slice p l.length cap], .int .i64 time] w fun e w' => e = .returned (.agg #[.int .i64 (atS time zG l).tm, .bool (atS time zG l).gone, .int .i64 (atS time zG l).doc.k, .int .i64 (atS time zG l).doc.n, .string (atS time zG l).doc.t]) ∧ Below w.heap.size w w' := by
  obtain ⟨R, hR⟩ : ∃ R, R = atS time zG l := ⟨_, rfl⟩
  rw [← hR]
  have HR : Hid (R = atS time zG l) := hR
  have HI : Hid (InVr _ _ _) := hin
  have K0 := AtB.start w id (.slice p l.length cap)
  clear hR hin
  go_enter Tryz.func87, Tryz.ntmps87
  go_wp2_with fail
  generalize (((w.alloc (.cells #[.int .i64 id, .slice p l.length cap] 66)).alloc (.cells #[.int .i64 0, .bool false, .int .i64 0, .int .i64 0, .string em] 70)).alloc (.cells #[.int .i64 0, .bool true, .int .i64 0, .int .i64 0, .string em] 70)) = W0 at K0 ⊢
  go_loopw [6] (fun i wr => ∃ k : Nat, k ≤ l.length ∧ i = .int .i64 k ∧ AtB w wr id (.slice p l.length cap) (atS time zG (l.take k))) (fun i _ => l.length - (intOf i).toNat)
  case atStart => exact ⟨0, Nat.zero_le _, rfl, K0⟩
  case round =>
    obtain ⟨k, hk, rfl, K⟩ := hrel
    clear K0
    obtain ⟨x0, x1⟩ := two K.xb
    by_cases hlt : k < l.length
    · rcases HI.out.step K.bel with h0 | ⟨b, off, rfl, hbl, hcell⟩
      · omega
      obtain ⟨y0, y1, y2, y3, y4⟩ := hcell k hlt
      have hst := atS_take time l k hlt
      have hlt2 : (k : Int) < (l.length : Int) := by omega
      obtain ⟨v, hv⟩ : ∃ v, v = l[k] := ⟨_, rfl⟩
      rw [← hv] at y0 y1 y2 y3 y4 hst
      obtain ⟨cur, hcur⟩ : ∃ cur, cur = atS time zG (l.take k) := ⟨_, rfl⟩
      rw [← hcur] at hst K
      obtain ⟨t0, t1, t2, t3, t4⟩ := five K.ob
      have hs := fun o => soft K.ob o
      clear hcell hv hcur
      by_cases hle : v.tm ≤ time
      · rw [if_pos hle] at hst
        have HST : Hid (atS time zG (l.take (k + 1)) = v) := hst
        have K2 := K.put v
        have HK2 : Hid (AtB _ _ _ _ _) := K2
        clear hst K2
        go_wp2_with fail
        go_roundw
        case rel => exact ⟨k + 1, by omega, by go_num, by rw [HST.out]; exact HK2.out⟩
        case measure => simp [intOf]; omega
      · rw [if_neg hle] at hst
        have HST : Hid (atS time zG (l.take (k + 1)) = cur) := hst
        have HK2 : Hid (AtB _ _ _ _ _) := K
        clear hst
        go_wp2_with fail
        go_roundw
        case rel => exact ⟨k + 1, by omega, by go_num, by rw [HST.out]; exact HK2.out⟩
        case measure => simp [intOf]; omega
    · have hlt2 : ¬ (k : Int) < (l.length : Int) := by omega
      have hRk : R = atS time zG (l.take k) := by rw [HR.out, List.take_of_length_le (by omega)]
      rw [← hRk] at K
      obtain ⟨t0, t1, t2, t3, t4⟩ := five K.ob
      obtain ⟨q0, q1, q2, q3, q4⟩ := five K.rb
      have hq := fun o => soft K.rb o
      have hbw := K.bel
      clear hRk
      go_wp2_with fail
      refine bodyPost_ret (v := .agg #[.int .i64 R.tm, .bool R.gone, .int .i64 R.doc.k, .int .i64 R.doc.n, .string R.doc.t]) (by simp [results, Tryz.results87, go_sem, *]) rfl ⟨rfl, ?_⟩
      (repeat (first | (with_reducible exact Below.refl _ _) | (with_reducible assumption) | (with_reducible apply below_drewN) | (with_reducible apply Below.drew) | ((with_reducible refine Below.setCell ?_ ?_ _); rotate_left; focus (first | (simp; done) | (simp; omega) | omega)) | ((with_reducible refine Below.alloc ?_ ?_ _); rotate_left; focus (first | (simp; done) | (simp; omega) | omega))))

/-- The newest version of an id, zero but gone without any. -/
def lastS (c : List Chn) (id : Int) : Ver := match findC id c with | some x => atS 10000 zG x.vs | none => zG
theorem box3_res (w : World) (a b d : Value) : ((w.alloc (.cells #[a, b, d] 63)).alloc (.cells #[.int .i64 0, .bool false, .int .i64 0, .int .i64 0, .string em] 70)).heap[w.heap.size + 1]? = some (.cells #[.int .i64 0, .bool false, .int .i64 0, .int .i64 0, .string em] 70) := by
  have := heap_alloc_new (w.alloc (.cells #[a, b, d] 63)) (.cells #[.int .i64 0, .bool false, .int .i64 0, .int .i64 0, .string em] 70)
  rw [heap_size_alloc] at this; exact this
/-- A version in its block. -/
structure V5 (U : World) (b : Nat) (v : Ver) : Prop where
  lt : b < U.heap.size
  cb : U.heap[b]? = some (.cells #[.int .i64 v.tm, .bool v.gone, .int .i64 v.doc.k, .int .i64 v.doc.n, .string v.doc.t] 70)
theorem V5.new (U : World) (v : Ver) : V5 (U.alloc (.cells #[.int .i64 v.tm, .bool v.gone, .int .i64 v.doc.k, .int .i64 v.doc.n, .string v.doc.t] 70)) U.heap.size v := ⟨by simp, heap_alloc_new _ _⟩
theorem V5.step {U U' : World} {b : Nat} {v : Ver} (h : V5 U b v) (hb : Below U.heap.size U U') : V5 U' b v := ⟨Nat.lt_of_lt_of_le h.lt hb.size, (hb.block _ h.lt).trans h.cb⟩

end Go.Proofs.YtpfbepbmiillbaaGreatDoor.Co

/- Marks on rows of versions and of parts: what the laws' helpers answer, and which memory they change. -/
namespace Go.Proofs.YtpfbepbmiillbaaGreatDoor.Co
open Go.RowKit Tr
set_option linter.unusedVariables false

theorem markText_at (n : Nat) (z : Int) (hz : z = (n : Int)) (h1 : 1 ≤ n) (h2 : n ≤ 17592186044416) (w : World) :
    Calls Tryz.prog 55 #[.int .i64 z] w fun e w' => e = .returned (.string (Tr.mt n)) ∧ Below w.heap.size w w' := by
  subst hz; exact Tr.markText_any n h1 h2 w
/-- Whether a mark's number makes true. -/
def boolM (n : Int) : Bool := n % 3 == 0
/-- The version that marks a place, from number n on. -/
def markVr (n : Nat) : Ver := ⟨(n : Int), boolM ((n : Int) + 1), ⟨(n : Int) + 1 + 1, (n : Int) + 1 + 1 + 1, Tr.mt (n + 4)⟩⟩
def marksVr : Nat → Nat → List Ver
  | _, 0 => []
  | q, n + 1 => markVr q :: marksVr (q + 5) n
theorem marksVr_len : ∀ (n q : Nat), (marksVr q n).length = n
  | 0, _ => rfl
  | n + 1, q => by rw [marksVr, List.length_cons, marksVr_len n]
theorem marksVr_snoc : ∀ (k q : Nat), marksVr q (k + 1) = marksVr q k ++ [markVr (q + 5 * k)]
  | 0, q => rfl
  | k + 1, q => by
    rw [marksVr, marksVr_snoc k (q + 5), marksVr, List.cons_append, show q + 5 + 5 * k = q + 5 * (k + 1) by omega]
theorem marksVr_get : ∀ (n q i : Nat) (h : i < (marksVr q n).length), (marksVr q n)[i] = markVr (q + 5 * i)
  | 0, q, i, h => by simp [marksVr] at h
  | n + 1, q, 0, h => by simp [marksVr]
  | n + 1, q, i + 1, h => by
    have := marksVr_get n (q + 5) i (by rw [marksVr_len] at *; omega)
    simp only [marksVr, List.getElem_cons_succ]
    rw [this]
    congr 1
    omega
def markMixVr (q : Nat) (l : List Ver) (k : Nat) : List Ver := marksVr q k ++ l.drop k
theorem markMixVr_len (q : Nat) (l : List Ver) (k : Nat) (h : k ≤ l.length) : (markMixVr q l k).length = l.length := by unfold markMixVr; rw [List.length_append, marksVr_len, List.length_drop]; omega
theorem markMixVr_zero (q : Nat) (l : List Ver) : markMixVr q l 0 = l := by unfold markMixVr marksVr; simp
theorem markMixVr_full (q : Nat) (l : List Ver) : markMixVr q l l.length = marksVr q l.length := by unfold markMixVr; simp
theorem markMixVr_set (q : Nat) (l : List Ver) (k : Nat) (h : k < l.length) : (markMixVr q l k).set k (markVr (q + 5 * k)) = markMixVr q l (k + 1) := by
  unfold markMixVr
  rw [List.set_append_right _ _ (by rw [marksVr_len]; omega), marksVr_len, Nat.sub_self, marksVr_snoc, List.append_assoc]
  congr 1
  rw [List.drop_eq_getElem_cons h]; rfl

set_option maxRecDepth 4000 in
set_option maxHeartbeats 2000000 in
theorem markVersionS_any (base : Nat) (v : Value) (l : List Ver) (q : Nat) (w : World) (hown : OwnVr w base v l) (h1 : 1 ≤ q) (h2 : q + 5 * l.length ≤ 17592186044416) (hl : l.length ≤ 1048576) :
    Calls Tryz.prog 122 #[v, .int .i64 q] w fun e w' => e = .returned (.int .i64 ((q + 5 * l.length : Nat) : Int)) ∧ OwnVr w' base v (marksVr q l.length) ∧ w.grownBy w' v.ownBlock := by
  rcases hown.form with ⟨rfl, rfl⟩ | ⟨g, c, rfl, hgb, hgl⟩
  · have HO0 : Hid (OwnVr _ _ _ _) := hown
    clear hown
    go_enter Tryz.func122, Tryz.ntmps122
    go_wp2_with fail
    refine wp_loop_rounds 1 ?_
    rw [rounds_succ]
    go_wp2_with fail
    go_ret
    exact ⟨rfl, HO0.out, grown_refl _ _⟩
  · have HO0 : Hid (OwnVr _ _ _ _) := hown
    clear hown
    go_enter Tryz.func122, Tryz.ntmps122
    go_wp2_with fail
    go_loopw [1, 5] (fun x i wr => ∃ (k E : Nat), k ≤ l.length ∧ i = .int .i64 k ∧ x = .int .i64 (E : Int) ∧ E = q + 5 * k ∧ wr.ownsRow base 70 5 (.slice (some ⟨g, 0, none⟩) l.length c) l.length (flatVr (markMixVr q l k)) ∧ w.grownBy wr (some g)) (fun _ i _ => l.length - (intOf i).toNat)
    case atStart => exact ⟨0, q, Nat.zero_le _, rfl, rfl, by omega, by rw [markMixVr_zero]; exact HO0.out, grown_refl _ _⟩
    case round =>
      obtain ⟨k, E, hk, rfl, rfl, hE, hown, hgr⟩ := hrel
      have HB : Hid (World.grownBy _ _ _) := hgr
      have hz := hgr.size
      clear hgr HO0
      by_cases hlt : k < l.length
      · have hlt2 : (k : Int) < (l.length : Int) := by omega
        have hm := markMixVr_len q l k hk
        have hglr : g < wr.heap.size := (hown.lt g rfl).2
        obtain ⟨z0, y0⟩ := own_there hown (k * 5) (by omega)
        obtain ⟨z1, y1⟩ := own_there hown (k * 5 + 1) (by omega)
        obtain ⟨z2, y2⟩ := own_there hown (k * 5 + 2) (by omega)
        obtain ⟨z3, y3⟩ := own_there hown (k * 5 + 3) (by omega)
        have hf := fun o => World.ownsRow.frozenAt hown o
        have f0 := hf (k * 5); have f1 := hf (k * 5 + 1); have f2 := hf (k * 5 + 2); have f3 := hf (k * 5 + 3)
        obtain ⟨B, hB⟩ : ∃ B : Bool, B = boolM ((E : Int) + 1) := ⟨_, rfl⟩
        have hB' : (((E : Int) + 1) % 3 == 0) = B := by rw [hB]; rfl
        have hT' : Int.tmod ((E : Int) + 1) 3 = ((E : Int) + 1) % 3 := Int.tmod_eq_emod_of_nonneg (by omega)
        have hst4 := (World.ownsRow.stored (World.ownsRow.stored (World.ownsRow.stored (World.ownsRow.stored hown (k * 5) (.int .i64 (E : Int))).1 (k * 5 + 1) (.bool B)).1 (k * 5 + 2) (.int .i64 ((E : Int) + 1 + 1))).1 (k * 5 + 3) (.int .i64 ((E : Int) + 1 + 1 + 1))).1
        have he : (((((flatVr (markMixVr q l k)).set (k * 5) (.int .i64 (E : Int))).set (k * 5 + 1) (.bool B)).set (k * 5 + 2) (.int .i64 ((E : Int) + 1 + 1))).set (k * 5 + 3) (.int .i64 ((E : Int) + 1 + 1 + 1))).set (k * 5 + 4) (.string (Tr.mt (E + 4))) = flatVr (markMixVr q l (k + 1)) := by
          rw [← markMixVr_set q l k hlt, hB, ← hE]; exact flatVr_set (markMixVr q l k) k (markVr E) (by omega)
        have HE : Hid _ := he
        have HS4 : Hid (World.ownsRow _ _ _ _ _ _ _) := hst4
        have HEQ : Hid (E = q + 5 * k) := hE
        have hEb : E ≤ 17592186044411 := by omega
        have hE1 : 1 ≤ E := by omega
        clear hown hst4 he hB hE hf
        go_wp2_with fail
        refine (markText_at (E + 4) _ (by omega) (by omega) (by omega) _).mono ?_
        rintro e w2 ⟨rfl, hb2⟩
        have hown2 := owns_below HS4.out hb2
        obtain ⟨z4, y4⟩ := own_there hown2 (k * 5 + 4) (by omega)
        have f4 := World.ownsRow.frozenAt hown2 (k * 5 + 4)
        have hst := (World.ownsRow.stored hown2 (k * 5 + 4) (.string (Tr.mt (E + 4)))).1
        rw [HE.out] at hst
        have HS : Hid (World.ownsRow _ _ _ _ _ _ _) := hst
        have HB2 : Hid (World.grownBy _ _ _) := grown_trans (grown_trans (grown_trans (grown_trans (grown_trans HB.out grown_set) grown_set) grown_set) grown_set) (grown_below hb2)
        have hz2 := hb2.size
        clear hst hown2 hb2 hm HS4 y0 y1 y2 y3 f0 f1 f2 f3
        go_wp2_with fail
        go_roundw
        case rel => exact ⟨k + 1, E + 5, by omega, by go_num, by go_num, by have := HEQ.out; omega, HS.out, grown_trans HB2.out grown_set⟩
        case measure => simp [intOf]; omega
      · obtain rfl : k = l.length := by omega
        rw [markMixVr_full] at hown
        have HO : Hid (World.ownsRow _ _ _ _ _ _ _) := hown
        clear hown
        subst hE
        go_wp2_with fail
        go_ret
        exact ⟨rfl, by unfold OwnVr; rw [marksVr_len]; exact HO.out, HB.out⟩

end Go.Proofs.YtpfbepbmiillbaaGreatDoor.Co

/- Marks on rows of parts and of chains: what the laws' helpers answer, and which memory they change. -/
namespace Go.Proofs.YtpfbepbmiillbaaGreatDoor.Co
open Go.RowKit Tr
set_option linter.unusedVariables false

/-- The part that marks a place, from number n on. -/
def markPt (n : Nat) : Prt := ⟨Tr.mt n, boolM ((n : Int) + 1)⟩
def marksPt : Nat → Nat → List Prt
  | _, 0 => []
  | q, n + 1 => markPt q :: marksPt (q + 2) n
theorem marksPt_len : ∀ (n q : Nat), (marksPt q n).length = n
  | 0, _ => rfl
  | n + 1, q => by rw [marksPt, List.length_cons, marksPt_len n]
theorem marksPt_snoc : ∀ (k q : Nat), marksPt q (k + 1) = marksPt q k ++ [markPt (q + 2 * k)]
  | 0, q => rfl
  | k + 1, q => by
    rw [marksPt, marksPt_snoc k (q + 2), marksPt, List.cons_append, show q + 2 + 2 * k = q + 2 * (k + 1) by omega]
theorem marksPt_get : ∀ (n q i : Nat) (h : i < (marksPt q n).length), (marksPt q n)[i] = markPt (q + 2 * i)
  | 0, q, i, h => by simp [marksPt] at h
  | n + 1, q, 0, h => by simp [marksPt]
  | n + 1, q, i + 1, h => by
    have := marksPt_get n (q + 2) i (by rw [marksPt_len] at *; omega)
    simp only [marksPt, List.getElem_cons_succ]
    rw [this]
    congr 1
    omega
def markMixPt (q : Nat) (l : List Prt) (k : Nat) : List Prt := marksPt q k ++ l.drop k
theorem markMixPt_len (q : Nat) (l : List Prt) (k : Nat) (h : k ≤ l.length) : (markMixPt q l k).length = l.length := by unfold markMixPt; rw [List.length_append, marksPt_len, List.length_drop]; omega
theorem markMixPt_zero (q : Nat) (l : List Prt) : markMixPt q l 0 = l := by unfold markMixPt marksPt; simp
theorem markMixPt_full (q : Nat) (l : List Prt) : markMixPt q l l.length = marksPt q l.length := by unfold markMixPt; simp
theorem markMixPt_set (q : Nat) (l : List Prt) (k : Nat) (h : k < l.length) : (markMixPt q l k).set k (markPt (q + 2 * k)) = markMixPt q l (k + 1) := by
  unfold markMixPt
  rw [List.set_append_right _ _ (by rw [marksPt_len]; omega), marksPt_len, Nat.sub_self, marksPt_snoc, List.append_assoc]
  congr 1
  rw [List.drop_eq_getElem_cons h]; rfl

set_option maxRecDepth 4000 in
set_option maxHeartbeats 2000000 in
theorem markPartS_any (base : Nat) (v : Value) (l : List Prt) (q : Nat) (w : World) (hown : OwnD w base v l) (h1 : 1 ≤ q) (h2 : q + 2 * l.length ≤ 17592186044416) (hl : l.length ≤ 1048576) :
    Calls Tryz.prog 123 #[v, .int .i64 q] w fun e w' => e = .returned (.int .i64 ((q + 2 * l.length : Nat) : Int)) ∧ OwnD w' base v (marksPt q l.length) ∧ w.grownBy w' v.ownBlock := by
  rcases hown.form with ⟨rfl, rfl⟩ | ⟨g, c, rfl, hgb, hgl⟩
  · have HO0 : Hid (OwnD _ _ _ _) := hown
    clear hown
    go_enter Tryz.func123, Tryz.ntmps123
    go_wp2_with fail
    refine wp_loop_rounds 1 ?_
    rw [rounds_succ]
    go_wp2_with fail
    go_ret
    exact ⟨rfl, HO0.out, grown_refl _ _⟩
  · have HO0 : Hid (OwnD _ _ _ _) := hown
    clear hown
    go_enter Tryz.func123, Tryz.ntmps123
    go_wp2_with fail
    go_loopw [1, 5] (fun x i wr => ∃ (k E : Nat), k ≤ l.length ∧ i = .int .i64 k ∧ x = .int .i64 (E : Int) ∧ E = q + 2 * k ∧ wr.ownsRow base 204 2 (.slice (some ⟨g, 0, none⟩) l.length c) l.length (flatD (markMixPt q l k)) ∧ w.grownBy wr (some g)) (fun _ i _ => l.length - (intOf i).toNat)
    case atStart => exact ⟨0, q, Nat.zero_le _, rfl, rfl, by omega, by rw [markMixPt_zero]; exact HO0.out, grown_refl _ _⟩
    case round =>
      obtain ⟨k, E, hk, rfl, rfl, hE, hown, hgr⟩ := hrel
      have HB : Hid (World.grownBy _ _ _) := hgr
      have hz := hgr.size
      clear hgr HO0
      by_cases hlt : k < l.length
      · have hlt2 : (k : Int) < (l.length : Int) := by omega
        have hm := markMixPt_len q l k hk
        have hglr : g < wr.heap.size := (hown.lt g rfl).2
        have HO : Hid (World.ownsRow _ _ _ _ _ _ _) := hown
        obtain ⟨B, hB⟩ : ∃ B : Bool, B = boolM ((E : Int) + 1) := ⟨_, rfl⟩
        have hB' : (((E : Int) + 1) % 3 == 0) = B := by rw [hB]; rfl
        have hT' : Int.tmod ((E : Int) + 1) 3 = ((E : Int) + 1) % 3 := Int.tmod_eq_emod_of_nonneg (by omega)
        have he : ((flatD (markMixPt q l k)).set (k * 2) (.string (Tr.mt E))).set (k * 2 + 1) (.bool B) = flatD (markMixPt q l (k + 1)) := by
          rw [← markMixPt_set q l k hlt, hB, ← hE]; exact flatD_set (markMixPt q l k) k (markPt E) (by omega)
        have HE : Hid _ := he
        have HEQ : Hid (E = q + 2 * k) := hE
        have hEb : E ≤ 17592186044414 := by omega
        have hE1 : 1 ≤ E := by omega
        clear hown he hB hE
        go_wp2_with fail
        refine (markText_at E _ (by omega) (by omega) (by omega) _).mono ?_
        rintro e w2 ⟨rfl, hb2⟩
        have hown2 := owns_below HO.out hb2
        obtain ⟨z0, y0⟩ := own_there hown2 (k * 2) (by omega)
        obtain ⟨z1, y1⟩ := own_there hown2 (k * 2 + 1) (by omega)
        have f0 := World.ownsRow.frozenAt hown2 (k * 2)
        have f1 := World.ownsRow.frozenAt hown2 (k * 2 + 1)
        have hst := (World.ownsRow.stored (World.ownsRow.stored hown2 (k * 2) (.string (Tr.mt E))).1 (k * 2 + 1) (.bool B)).1
        rw [HE.out] at hst
        have HS : Hid (World.ownsRow _ _ _ _ _ _ _) := hst
        have HB2 : Hid (World.grownBy _ _ _) := grown_trans HB.out (grown_below hb2)
        have hz2 := hb2.size
        clear hst hown2 hb2 hm HO
        go_wp2_with fail
        go_roundw
        case rel => exact ⟨k + 1, E + 2, by omega, by go_num, by go_num, by have := HEQ.out; omega, HS.out, grown_trans (grown_trans HB2.out grown_set) grown_set⟩
        case measure => simp [intOf]; omega
      · obtain rfl : k = l.length := by omega
        rw [markMixPt_full] at hown
        have HO : Hid (World.ownsRow _ _ _ _ _ _ _) := hown
        clear hown
        subst hE
        go_wp2_with fail
        go_ret
        exact ⟨rfl, by unfold OwnD; rw [marksPt_len]; exact HO.out, HB.out⟩

/-- The chains that marks leave, from number q on, and the number behind them. -/
def marksCh : Nat → List Chn → List Chn
  | _, [] => []
  | q, p :: t => ⟨q, marksVr (q + 1) p.vs.length⟩ :: marksCh (q + 1 + 5 * p.vs.length) t
def endCh : Nat → List Chn → Nat
  | q, [] => q
  | q, p :: t => endCh (q + 1 + 5 * p.vs.length) t
theorem marksCh_cons (q : Nat) (p : Chn) (t : List Chn) : marksCh q (p :: t) = ⟨q, marksVr (q + 1) p.vs.length⟩ :: marksCh (q + 1 + 5 * p.vs.length) t := rfl
theorem endCh_cons (q : Nat) (p : Chn) (t : List Chn) : endCh q (p :: t) = endCh (q + 1 + 5 * p.vs.length) t := rfl
theorem marksCh_len : ∀ (q : Nat) (f : List Chn), (marksCh q f).length = f.length
  | _, [] => rfl
  | q, p :: t => by unfold marksCh; simp [marksCh_len _ t]
theorem marksCh_app : ∀ (q : Nat) (a b : List Chn), marksCh q (a ++ b) = marksCh q a ++ marksCh (endCh q a) b
  | _, [], b => rfl
  | q, p :: t, b => by
    rw [List.cons_append, marksCh_cons, marksCh_cons, endCh_cons, marksCh_app _ t b]; rfl
theorem endCh_app : ∀ (q : Nat) (a b : List Chn), endCh q (a ++ b) = endCh (endCh q a) b
  | _, [], b => rfl
  | q, p :: t, b => by
    rw [List.cons_append, endCh_cons, endCh_cons]
    exact endCh_app _ t b
theorem endCh_ge : ∀ (q : Nat) (f : List Chn), q ≤ endCh q f
  | q, [] => Nat.le_refl _
  | q, p :: t => by
    have := endCh_ge (q + 1 + 5 * p.vs.length) t
    unfold endCh; omega
theorem endCh_le : ∀ (q : Nat) (f : List Chn), (∀ p ∈ f, p.vs.length ≤ 1048576) → endCh q f ≤ q + f.length * 5242881
  | q, [], _ => by simp [endCh]
  | q, p :: t, h => by
    have h1 := endCh_le (q + 1 + 5 * p.vs.length) t (fun r hr => h r (List.mem_cons_of_mem _ hr))
    have h2 := h p (List.mem_cons_self ..)
    unfold endCh
    rw [List.length_cons, Nat.add_mul]
    omega
/-- The first k chains marked. -/
def mixMCh (q : Nat) (f : List Chn) (k : Nat) : List Chn := marksCh q (f.take k) ++ f.drop k
theorem mixMCh_len (q : Nat) (f : List Chn) (k : Nat) (h : k ≤ f.length) : (mixMCh q f k).length = f.length := by unfold mixMCh; rw [List.length_append, marksCh_len, List.length_take, List.length_drop]; omega
theorem mixMCh_zero (q : Nat) (f : List Chn) : mixMCh q f 0 = f := by unfold mixMCh marksCh; simp
theorem mixMCh_full (q : Nat) (f : List Chn) (k : Nat) (h : k = f.length) : mixMCh q f k = marksCh q f := by subst h; unfold mixMCh; simp
theorem mixMCh_get (q : Nat) (f : List Chn) (k : Nat) (h : k < f.length) (h2 : k < (mixMCh q f k).length) : (mixMCh q f k)[k] = f[k] := by
  have hl : (marksCh q (f.take k)).length = k := by rw [marksCh_len, List.length_take]; omega
  have e : (mixMCh q f k)[k]? = f[k]? := by
    unfold mixMCh
    rw [List.getElem?_append_right (by omega), hl, Nat.sub_self, List.getElem?_drop]; rfl
  rw [List.getElem?_eq_getElem h2, List.getElem?_eq_getElem h] at e
  exact Option.some.inj e
theorem mixMCh_set (q : Nat) (f : List Chn) (k : Nat) (h : k < f.length) : (mixMCh q f k).set k ⟨(endCh q (f.take k) : Nat), marksVr (endCh q (f.take k) + 1) f[k].vs.length⟩ = mixMCh q f (k + 1) := by
  unfold mixMCh
  have hl : (marksCh q (f.take k)).length = k := by rw [marksCh_len, List.length_take]; omega
  rw [List.set_append_right _ _ (by omega), hl, Nat.sub_self, List.take_succ_eq_append_getElem h, marksCh_app, List.append_assoc]
  congr 1
  rw [List.drop_eq_getElem_cons h]; rfl
theorem endCh_succ (q : Nat) (f : List Chn) (k : Nat) (h : k < f.length) : endCh q (f.take (k + 1)) = endCh q (f.take k) + 1 + 5 * f[k].vs.length := by
  rw [List.take_succ_eq_append_getElem h, endCh_app]; rfl

theorem PartCh.mark {w w3 : World} {lo g c n : Nat} {f : List Chn} {vs : Nat → Value} {xs : List Value} (h : PartCh w lo (.slice (some ⟨g, 0, none⟩) n c) n f n vs xs) (hn : f.length = n) {k : Nat} (hk : k < n) {num : Int} {es : List Ver}
    (ho : OwnVr w3 lo (vs k) es) (hg : (w.setCell ⟨g, k * 2, none⟩ (.int .i64 num)).grownBy w3 (vs k).ownBlock) : PartCh w3 lo (.slice (some ⟨g, 0, none⟩) n c) n (f.set k ⟨num, es⟩) n vs (xs.set (k * 2) (.int .i64 num)) := by
  have hl : xs.length = n * 2 := h.row.1
  have hsw : ∀ {i j : Nat}, ((vs i).ownBlock = none ∨ (vs i).ownBlock ≠ (vs j).ownBlock) → ((vs j).ownBlock = none ∨ (vs j).ownBlock ≠ (vs i).ownBlock) := by
    intro i j hh
    rcases hh with hh | hh
    · cases hj : (vs j).ownBlock with
      | none => exact .inl rfl
      | some b => exact .inr (by rw [hh]; simp)
    · exact .inr (fun e => hh e.symm)
  refine ⟨?_, ?_, ?_, ?_, ?_⟩
  · refine ((World.ownsRow.stored h.row (k * 2) (.int .i64 num)).1).kept hg (.inr ?_)
    rcases h.aside k (by omega) hk with hh | hh
    · rw [hh]; simp [Value.ownBlock]
    · exact fun e => hh e.symm
  · intro i hi0 hik
    have hi : i < f.length := by simpa using hi0
    by_cases e : i = k
    · subst e
      rw [List.getElem_set_self, List.getElem?_set_self (by omega), List.getElem?_set_ne (by omega)]
      exact ⟨rfl, (h.at_ i hi hik).2⟩
    · rw [List.getElem_set_ne (fun e' => e e'.symm), List.getElem?_set_ne (by omega), List.getElem?_set_ne (by omega)]
      exact h.at_ i hi hik
  · intro i hi0 hik
    have hi : i < f.length := by simpa using hi0
    by_cases e : i = k
    · subst e; rw [List.getElem_set_self]; exact ho
    · rw [List.getElem_set_ne (fun e' => e e'.symm)]
      exact ((World.ownsRow.kept (h.ents i hi hik) grown_set (h.aside i hi hik))).kept hg (h.apart i k hi (by omega) hik hk e)
  · intro i j hi hj hik hjk hne
    rw [List.length_set] at hi hj
    exact h.apart i j hi hj hik hjk hne
  · intro i hi hik
    rw [List.length_set] at hi
    exact h.aside i hi hik

set_option maxRecDepth 4000 in
set_option maxHeartbeats 2000000 in
theorem markChainS_any (lo hi : Nat) (v : Value) (f : List Chn) (q : Nat) (w : World) (hown : OwnChH w lo hi v f) (h1 : 1 ≤ q) (h2 : q ≤ 1000) (hl : f.length ≤ 1048576) (hs : ∀ p ∈ f, p.vs.length ≤ 1048576) :
    Calls Tryz.prog 82 #[v, .int .i64 q] w fun e w' => e = .returned (.int .i64 ((endCh q f : Nat) : Int)) ∧ OwnChH w' lo hi v (marksCh q f) ∧ Chg lo hi w w' := by
  have HH := hown
  obtain ⟨vs, xs0, hP, hv, hvs⟩ := HH
  have hrow := hP.row
  obtain ⟨hr1, hr2⟩ := hrow
  rcases hr2 with ⟨rfl, h0⟩ | ⟨g, c, cur, rfl, hg, _⟩
  · have hf : f = [] := List.length_eq_zero_iff.1 h0
    subst hf
    have HO0 : Hid (OwnChH _ _ _ _ _) := hown
    clear hown hP hv hvs hr1
    go_enter Tryz.func82, Tryz.ntmps82
    go_wp2_with fail
    refine wp_loop_rounds 1 ?_
    rw [rounds_succ]
    go_wp2_with fail
    go_ret
    exact ⟨rfl, HO0.out, Chg.refl _ _ _⟩
  · have HP0 : Hid (PartCh _ _ _ _ _ _ _ _) := hP
    have HV : Hid (∀ b, (Value.slice (some ⟨g, 0, none⟩) f.length c).ownBlock = some b → b < hi) := hv
    have HVS : Hid (∀ i, i < f.length → ∀ b, (vs i).ownBlock = some b → b < hi) := hvs
    have HS : Hid _ := hs
    clear hown hP hv hvs hs hr1
    go_enter Tryz.func82, Tryz.ntmps82
    go_wp2_with fail
    go_loopw [1, 5] (fun x i wr => ∃ (k : Nat) (xs : List Value), k ≤ f.length ∧ i = .int .i64 k ∧ x = .int .i64 ((endCh q (f.take k) : Nat) : Int) ∧ PartCh wr lo (.slice (some ⟨g, 0, none⟩) f.length c) f.length (mixMCh q f k) f.length vs xs ∧ Chg lo hi w wr) (fun _ i _ => f.length - (intOf i).toNat)
    case atStart => exact ⟨0, xs0, Nat.zero_le _, rfl, rfl, by rw [mixMCh_zero]; exact HP0.out, Chg.refl _ _ _⟩
    case round =>
      obtain ⟨k, xs, hk, rfl, rfl, hP, hC⟩ := hrel
      have HC : Hid (Chg _ _ _ _) := hC
      have hz := hC.size
      have hml := mixMCh_len q f k hk
      have hen1 := endCh_ge q (f.take k)
      have hen2 := endCh_le q (f.take k) (fun p hp => HS.out p (List.mem_of_mem_take hp))
      have hen3 : (f.take k).length ≤ 1048576 := by rw [List.length_take]; omega
      have hen4 : (f.take k).length * 5242881 ≤ 1048576 * 5242881 := Nat.mul_le_mul_right _ hen3
      clear hC HP0
      by_cases hlt : k < f.length
      · have hlt2 : (k : Int) < (f.length : Int) := by omega
        have hsk := HS.out f[k] (List.getElem_mem _)
        have hglr : g < wr.heap.size := (hP.row.lt g rfl).2
        obtain ⟨z0, y0⟩ := own_there hP.row (k * 2) (by omega)
        have f0 := World.ownsRow.frozenAt hP.row (k * 2)
        have hat := (hP.at_ k (by omega) hlt).2
        have y1 := owns_cell hP.row _ _ hat
        have hen := hP.ents k (by omega) hlt
        rw [mixMCh_get q f k hlt] at hen
        have hsu := endCh_succ q f k hlt
        have hmset := mixMCh_set q f k hlt
        obtain ⟨E, hE⟩ : ∃ E, E = endCh q (f.take k) := ⟨_, rfl⟩
        rw [← hE] at hen1 hen2 hsu hmset ⊢
        have hen' : OwnVr (wr.setCell ⟨g, k * 2, none⟩ (.int .i64 E)) lo (vs k) f[k].vs := World.ownsRow.kept hen grown_set (hP.aside k (by omega) hlt)
        have HM0 := markVersionS_any lo (vs k) f[k].vs (E + 1) _ hen' (by omega) (by omega) hsk
        rw [show ((E + 1 : Nat) : Int) = (E : Int) + 1 by omega] at HM0
        have HM : Hid (Calls _ _ _ _ _) := HM0
        have HP : Hid (PartCh _ _ _ _ _ _ _ _) := hP
        have HSU : Hid _ := hsu
        have HMS : Hid _ := hmset
        have hgw : lo ≤ g := (hP.row.lt g rfl).1
        have hEb : E ≤ 6000000000000 := by omega
        clear hP hat hen hen' hsu hmset hE hen2 hen3 hen4 HM0
        go_wp2_with fail
        refine HM.out.mono ?_
        rintro e w3 ⟨rfl, hO3, hg3⟩
        have hP3 := HP.out.mark hml hlt hO3 hg3
        rw [HMS.out] at hP3
        have HP3 : Hid (PartCh _ _ _ _ _ _ _ _) := hP3
        have HC3 : Hid (Chg _ _ _ _) := (HC.out.trans (Chg.of_grown grown_set (fun b hb => by injection hb with hb; subst hb; exact ⟨hgw, HV.out _ rfl⟩))).trans (Chg.of_grown hg3 (fun b hb => ⟨(World.ownsRow.lt hO3 b hb).1, HVS.out k hlt b hb⟩))
        have hz3 := hg3.size
        clear hP3 hO3 hg3 HM HP HC
        go_wp2_with fail
        go_roundw
        case rel => exact ⟨k + 1, _, by omega, by go_num, by rw [HSU.out]; go_num, HP3.out, HC3.out⟩
        case measure => simp [intOf]; omega
      · obtain rfl : k = f.length := by omega
        rw [mixMCh_full q f _ rfl] at hP
        rw [List.take_length] at *
        have HP : Hid (PartCh _ _ _ _ _ _ _ _) := hP
        clear hP
        go_wp2_with fail
        go_ret
        exact ⟨rfl, ⟨vs, xs, by rw [marksCh_len]; exact HP.out, HV.out, by rw [marksCh_len]; exact HVS.out⟩, HC.out⟩


end Go.Proofs.YtpfbepbmiillbaaGreatDoor.Co

/- Marks on rows of definitions, and on collections: what the laws' helpers answer, and which memory they change. -/
namespace Go.Proofs.YtpfbepbmiillbaaGreatDoor.Co
open Go.RowKit Tr
set_option linter.unusedVariables false

/-- The definitions that marks leave, from number q on, and the number behind them. -/
def marksDf : Nat → List Dfn → List Dfn
  | _, [] => []
  | q, p :: t => ⟨Tr.mt q, marksPt (q + 1) p.ps.length⟩ :: marksDf (q + 1 + 2 * p.ps.length) t
def endDf : Nat → List Dfn → Nat
  | q, [] => q
  | q, p :: t => endDf (q + 1 + 2 * p.ps.length) t
theorem marksDf_cons (q : Nat) (p : Dfn) (t : List Dfn) : marksDf q (p :: t) = ⟨Tr.mt q, marksPt (q + 1) p.ps.length⟩ :: marksDf (q + 1 + 2 * p.ps.length) t := rfl
theorem endDf_cons (q : Nat) (p : Dfn) (t : List Dfn) : endDf q (p :: t) = endDf (q + 1 + 2 * p.ps.length) t := rfl
theorem marksDf_len : ∀ (q : Nat) (f : List Dfn), (marksDf q f).length = f.length
  | _, [] => rfl
  | q, p :: t => by unfold marksDf; simp [marksDf_len _ t]
theorem marksDf_app : ∀ (q : Nat) (a b : List Dfn), marksDf q (a ++ b) = marksDf q a ++ marksDf (endDf q a) b
  | _, [], b => rfl
  | q, p :: t, b => by
    rw [List.cons_append, marksDf_cons, marksDf_cons, endDf_cons, marksDf_app _ t b]; rfl
theorem endDf_app : ∀ (q : Nat) (a b : List Dfn), endDf q (a ++ b) = endDf (endDf q a) b
  | _, [], b => rfl
  | q, p :: t, b => by
    rw [List.cons_append, endDf_cons, endDf_cons]
    exact endDf_app _ t b
theorem endDf_ge : ∀ (q : Nat) (f : List Dfn), q ≤ endDf q f
  | q, [] => Nat.le_refl _
  | q, p :: t => by
    have := endDf_ge (q + 1 + 2 * p.ps.length) t
    unfold endDf; omega
theorem endDf_le : ∀ (q : Nat) (f : List Dfn), (∀ p ∈ f, p.ps.length ≤ 1048576) → endDf q f ≤ q + f.length * 2097153
  | q, [], _ => by simp [endDf]
  | q, p :: t, h => by
    have h1 := endDf_le (q + 1 + 2 * p.ps.length) t (fun r hr => h r (List.mem_cons_of_mem _ hr))
    have h2 := h p (List.mem_cons_self ..)
    unfold endDf
    rw [List.length_cons, Nat.add_mul]
    omega
/-- The first k definitions marked. -/
def mixMDf (q : Nat) (f : List Dfn) (k : Nat) : List Dfn := marksDf q (f.take k) ++ f.drop k
theorem mixMDf_len (q : Nat) (f : List Dfn) (k : Nat) (h : k ≤ f.length) : (mixMDf q f k).length = f.length := by unfold mixMDf; rw [List.length_append, marksDf_len, List.length_take, List.length_drop]; omega
theorem mixMDf_zero (q : Nat) (f : List Dfn) : mixMDf q f 0 = f := by unfold mixMDf marksDf; simp
theorem mixMDf_full (q : Nat) (f : List Dfn) (k : Nat) (h : k = f.length) : mixMDf q f k = marksDf q f := by subst h; unfold mixMDf; simp
theorem mixMDf_get (q : Nat) (f : List Dfn) (k : Nat) (h : k < f.length) (h2 : k < (mixMDf q f k).length) : (mixMDf q f k)[k] = f[k] := by
  have hl : (marksDf q (f.take k)).length = k := by rw [marksDf_len, List.length_take]; omega
  have e : (mixMDf q f k)[k]? = f[k]? := by
    unfold mixMDf
    rw [List.getElem?_append_right (by omega), hl, Nat.sub_self, List.getElem?_drop]; rfl
  rw [List.getElem?_eq_getElem h2, List.getElem?_eq_getElem h] at e
  exact Option.some.inj e
theorem mixMDf_set (q : Nat) (f : List Dfn) (k : Nat) (h : k < f.length) : (mixMDf q f k).set k ⟨Tr.mt (endDf q (f.take k)), marksPt (endDf q (f.take k) + 1) f[k].ps.length⟩ = mixMDf q f (k + 1) := by
  unfold mixMDf
  have hl : (marksDf q (f.take k)).length = k := by rw [marksDf_len, List.length_take]; omega
  rw [List.set_append_right _ _ (by omega), hl, Nat.sub_self, List.take_succ_eq_append_getElem h, marksDf_app, List.append_assoc]
  congr 1
  rw [List.drop_eq_getElem_cons h]; rfl
theorem endDf_succ (q : Nat) (f : List Dfn) (k : Nat) (h : k < f.length) : endDf q (f.take (k + 1)) = endDf q (f.take k) + 1 + 2 * f[k].ps.length := by
  rw [List.take_succ_eq_append_getElem h, endDf_app]; rfl

theorem PartDf.mark {w w3 : World} {lo g c n : Nat} {f : List Dfn} {vs : Nat → Value} {xs : List Value} (h : PartDf w lo (.slice (some ⟨g, 0, none⟩) n c) n f n vs xs) (hn : f.length = n) {k : Nat} (hk : k < n) {num : ByteArray} {es : List Prt}
    (ho : OwnD w3 lo (vs k) es) (hg : (w.setCell ⟨g, k * 2, none⟩ (.string num)).grownBy w3 (vs k).ownBlock) : PartDf w3 lo (.slice (some ⟨g, 0, none⟩) n c) n (f.set k ⟨num, es⟩) n vs (xs.set (k * 2) (.string num)) := by
  have hl : xs.length = n * 2 := h.row.1
  have hsw : ∀ {i j : Nat}, ((vs i).ownBlock = none ∨ (vs i).ownBlock ≠ (vs j).ownBlock) → ((vs j).ownBlock = none ∨ (vs j).ownBlock ≠ (vs i).ownBlock) := by
    intro i j hh
    rcases hh with hh | hh
    · cases hj : (vs j).ownBlock with
      | none => exact .inl rfl
      | some b => exact .inr (by rw [hh]; simp)
    · exact .inr (fun e => hh e.symm)
  refine ⟨?_, ?_, ?_, ?_, ?_⟩
  · refine ((World.ownsRow.stored h.row (k * 2) (.string num)).1).kept hg (.inr ?_)
    rcases h.aside k (by omega) hk with hh | hh
    · rw [hh]; simp [Value.ownBlock]
    · exact fun e => hh e.symm
  · intro i hi0 hik
    have hi : i < f.length := by simpa using hi0
    by_cases e : i = k
    · subst e
      rw [List.getElem_set_self, List.getElem?_set_self (by omega), List.getElem?_set_ne (by omega)]
      exact ⟨rfl, (h.at_ i hi hik).2⟩
    · rw [List.getElem_set_ne (fun e' => e e'.symm), List.getElem?_set_ne (by omega), List.getElem?_set_ne (by omega)]
      exact h.at_ i hi hik
  · intro i hi0 hik
    have hi : i < f.length := by simpa using hi0
    by_cases e : i = k
    · subst e; rw [List.getElem_set_self]; exact ho
    · rw [List.getElem_set_ne (fun e' => e e'.symm)]
      exact ((World.ownsRow.kept (h.ents i hi hik) grown_set (h.aside i hi hik))).kept hg (h.apart i k hi (by omega) hik hk e)
  · intro i j hi hj hik hjk hne
    rw [List.length_set] at hi hj
    exact h.apart i j hi hj hik hjk hne
  · intro i hi hik
    rw [List.length_set] at hi
    exact h.aside i hi hik

set_option maxRecDepth 4000 in
set_option maxHeartbeats 2000000 in
theorem markDefS_any (lo hi : Nat) (v : Value) (f : List Dfn) (q : Nat) (w : World) (hown : OwnDfH w lo hi v f) (h1 : 1 ≤ q) (h2 : q ≤ 6000000000000) (hl : f.length ≤ 1048576) (hs : ∀ p ∈ f, p.ps.length ≤ 1048576) :
    Calls Tryz.prog 83 #[v, .int .i64 q] w fun e w' => e = .returned (.int .i64 ((endDf q f : Nat) : Int)) ∧ OwnDfH w' lo hi v (marksDf q f) ∧ Chg lo hi w w' := by
  have HH := hown
  obtain ⟨vs, xs0, hP, hv, hvs⟩ := HH
  have hrow := hP.row
  obtain ⟨hr1, hr2⟩ := hrow
  rcases hr2 with ⟨rfl, h0⟩ | ⟨g, c, cur, rfl, hg, _⟩
  · have hf : f = [] := List.length_eq_zero_iff.1 h0
    subst hf
    have HO0 : Hid (OwnDfH _ _ _ _ _) := hown
    clear hown hP hv hvs hr1
    go_enter Tryz.func83, Tryz.ntmps83
    go_wp2_with fail
    refine wp_loop_rounds 1 ?_
    rw [rounds_succ]
    go_wp2_with fail
    go_ret
    exact ⟨rfl, HO0.out, Chg.refl _ _ _⟩
  · have HP0 : Hid (PartDf _ _ _ _ _ _ _ _) := hP
    have HV : Hid (∀ b, (Value.slice (some ⟨g, 0, none⟩) f.length c).ownBlock = some b → b < hi) := hv
    have HVS : Hid (∀ i, i < f.length → ∀ b, (vs i).ownBlock = some b → b < hi) := hvs
    have HS : Hid _ := hs
    clear hown hP hv hvs hs hr1
    go_enter Tryz.func83, Tryz.ntmps83
    go_wp2_with fail
    go_loopw [1, 5] (fun x i wr => ∃ (k : Nat) (xs : List Value), k ≤ f.length ∧ i = .int .i64 k ∧ x = .int .i64 ((endDf q (f.take k) : Nat) : Int) ∧ PartDf wr lo (.slice (some ⟨g, 0, none⟩) f.length c) f.length (mixMDf q f k) f.length vs xs ∧ Chg lo hi w wr) (fun _ i _ => f.length - (intOf i).toNat)
    case atStart => exact ⟨0, xs0, Nat.zero_le _, rfl, rfl, by rw [mixMDf_zero]; exact HP0.out, Chg.refl _ _ _⟩
    case round =>
      obtain ⟨k, xs, hk, rfl, rfl, hP, hC⟩ := hrel
      have HC : Hid (Chg _ _ _ _) := hC
      have hz := hC.size
      have hml := mixMDf_len q f k hk
      have hen1 := endDf_ge q (f.take k)
      have hen2 := endDf_le q (f.take k) (fun p hp => HS.out p (List.mem_of_mem_take hp))
      have hen3 : (f.take k).length ≤ 1048576 := by rw [List.length_take]; omega
      have hen4 : (f.take k).length * 2097153 ≤ 1048576 * 2097153 := Nat.mul_le_mul_right _ hen3
      clear hC HP0
      by_cases hlt : k < f.length
      · have hlt2 : (k : Int) < (f.length : Int) := by omega
        have hsk := HS.out f[k] (List.getElem_mem _)
        have hglr : g < wr.heap.size := (hP.row.lt g rfl).2
        have hat := (hP.at_ k (by omega) hlt).2
        have y1 := owns_cell hP.row _ _ hat
        have hen := hP.ents k (by omega) hlt
        rw [mixMDf_get q f k hlt] at hen
        have hsu := endDf_succ q f k hlt
        have hmset := mixMDf_set q f k hlt
        obtain ⟨E, hE⟩ : ∃ E, E = endDf q (f.take k) := ⟨_, rfl⟩
        rw [← hE] at hen1 hen2 hsu hmset ⊢
        have HEN : Hid (OwnD _ _ _ _) := hen
        have HP0 : Hid (PartDf _ _ _ _ _ _ _ _) := hP
        have HSU : Hid _ := hsu
        have HMS : Hid _ := hmset
        have hgw : lo ≤ g := (hP.row.lt g rfl).1
        have hEb : E ≤ 9000000000000 := by omega
        clear hP hat hen hsu hmset hE hen2 hen3 hen4 y1
        go_wp2_with fail
        refine (markText_at E _ (by omega) (by omega) (by omega) _).mono ?_
        rintro e w2 ⟨rfl, hb2⟩
        have hP := HP0.out.next hb2
        have hen2 := owns_below HEN.out hb2
        obtain ⟨z0, y0⟩ := own_there hP.row (k * 2) (by omega)
        have f0 := World.ownsRow.frozenAt hP.row (k * 2)
        have y1 := owns_cell hP.row _ _ (hP.at_ k (by omega) hlt).2
        have hglr2 : g < w2.heap.size := (hP.row.lt g rfl).2
        have hen' : OwnD (w2.setCell ⟨g, k * 2, none⟩ (.string (Tr.mt E))) lo (vs k) f[k].ps := World.ownsRow.kept hen2 grown_set (hP.aside k (by omega) hlt)
        have HM0 := markPartS_any lo (vs k) f[k].ps (E + 1) _ hen' (by omega) (by omega) hsk
        rw [show ((E + 1 : Nat) : Int) = (E : Int) + 1 by omega] at HM0
        have HM : Hid (Calls _ _ _ _ _) := HM0
        have HP : Hid (PartDf _ _ _ _ _ _ _ _) := hP
        have HC2 : Hid (Chg _ _ _ _) := HC.out.trans (Chg.of_below hb2)
        have hz2 := hb2.size
        clear hP hen2 hen' HM0 HP0 HEN hb2 HC
        go_wp2_with fail
        refine HM.out.mono ?_
        rintro e w3 ⟨rfl, hO3, hg3⟩
        have hP3 := HP.out.mark hml hlt hO3 hg3
        rw [HMS.out] at hP3
        have HP3 : Hid (PartDf _ _ _ _ _ _ _ _) := hP3
        have HC3 : Hid (Chg _ _ _ _) := (HC2.out.trans (Chg.of_grown grown_set (fun b hb => by injection hb with hb; subst hb; exact ⟨hgw, HV.out _ rfl⟩))).trans (Chg.of_grown hg3 (fun b hb => ⟨(World.ownsRow.lt hO3 b hb).1, HVS.out k hlt b hb⟩))
        have hz3 := hg3.size
        clear hP3 hO3 hg3 HM HP HC2
        go_wp2_with fail
        go_roundw
        case rel => exact ⟨k + 1, _, by omega, by go_num, by rw [HSU.out]; go_num, HP3.out, HC3.out⟩
        case measure => simp [intOf]; omega
      · obtain rfl : k = f.length := by omega
        rw [mixMDf_full q f _ rfl] at hP
        rw [List.take_length] at *
        have HP : Hid (PartDf _ _ _ _ _ _ _ _) := hP
        clear hP
        go_wp2_with fail
        go_ret
        exact ⟨rfl, ⟨vs, xs, by rw [marksDf_len]; exact HP.out, HV.out, by rw [marksDf_len]; exact HVS.out⟩, HC.out⟩


end Go.Proofs.YtpfbepbmiillbaaGreatDoor.Co

/- The documents that are seen at a time: what the program and the specification answer. -/
namespace Go.Proofs.YtpfbepbmiillbaaGreatDoor.Co
open Go.RowKit Tr
set_option linter.unusedVariables false

/-- The documents of those chains whose version is not gone. -/
def seenG (V : Chn → Ver) (l : List Chn) : List Val := l.flatMap fun x => if (V x).gone then [] else [(V x).doc]
theorem seenG_gone (V : Chn → Ver) (l : List Chn) (k : Nat) (h : k < l.length) (hg : (V l[k]).gone = true) : seenG V (l.take (k + 1)) = seenG V (l.take k) := by
  unfold seenG; rw [List.take_succ_eq_append_getElem h, List.flatMap_append]; simp [hg]
theorem seenG_there (V : Chn → Ver) (l : List Chn) (k : Nat) (h : k < l.length) (hg : (V l[k]).gone = false) : seenG V (l.take (k + 1)) = seenG V (l.take k) ++ [(V l[k]).doc] := by
  unfold seenG; rw [List.take_succ_eq_append_getElem h, List.flatMap_append]; simp [hg]
theorem seenG_len (V : Chn → Ver) : ∀ l : List Chn, (seenG V l).length ≤ l.length
  | [] => by simp [seenG]
  | x :: r => by
    have := seenG_len V r
    unfold seenG at *
    rw [List.flatMap_cons, List.length_append, List.length_cons]
    split <;> simp only [List.length_nil, List.length_cons] <;> omega
theorem seenG_congr (V U : Chn → Ver) : ∀ l : List Chn, (∀ x ∈ l, V x = U x) → seenG V l = seenG U l
  | [], _ => rfl
  | x :: r, h => by
    unfold seenG
    rw [List.flatMap_cons, List.flatMap_cons, h x (by simp)]
    congr 1
    exact seenG_congr V U r (fun y hy => h y (by simp [hy]))
/-- The answer of SeenAt: the documents, and a code. -/
def seenR (c : Col) (snap : Int) : List Val × Int := if collB c = true then (seenG (fun x => (trP snap x.vs).1) c.chs, 0) else ([], 1)
theorem seenR_bad (c : Col) (snap : Int) (h : collB c = false) : seenR c snap = ([], 1) := by unfold seenR; rw [h]; rfl
theorem seenR_ok (c : Col) (snap : Int) (h : collB c = true) : seenR c snap = (seenG (fun x => (trP snap x.vs).1) c.chs, 0) := by unfold seenR; rw [if_pos h]
structure SeenA (L : List Val × Int) (w : World) (e : Ending) (w' : World) : Prop where
  out : ∃ v, e = .returned (.tuple #[v, .int .i64 L.2]) ∧ w'.ownsRow w.heap.size 68 3 v L.1.length (flat L.1)
  bel : Below w.heap.size w w'
theorem trP_sz {c : Col} (h : SzCol c) {x : Chn} (hx : x ∈ c.chs) (snap : Int) : (trP snap x.vs).1.doc.t.size ≤ 1048576 := by
  rcases (trk_mem snap x.vs zG).1 with e | e
  · show (trk snap zG x.vs).1.doc.t.size ≤ _
    rw [e]; show em.size ≤ _; simp [ByteArray.size]
  · exact szVr_of h hx e
theorem boxed_grown {w W W' : World} {a b c : Value} {row : Option Nat} (h : Boxed w W a b c) (hg : W.grownBy W' row) (hr : ∀ j, row = some j → w.heap.size < j) : Boxed w W' a b c :=
  have hb := hg.block w.heap.size h.lt (fun e => by have := hr _ e.symm; omega)
  ⟨Below.grown h.bel hg h.bel.size (fun j hj => Nat.le_of_lt (hr j hj)), Nat.lt_of_lt_of_le h.lt hg.size, (World.cell?_of_block hb).trans h.c0, (World.cell?_of_block hb).trans h.c1, (World.cell?_of_block hb).trans h.c2⟩
/-- A track in its block. -/
structure V6 (U : World) (b : Nat) (v : Ver) (s : Value) : Prop where
  lt : b < U.heap.size
  cb : U.heap[b]? = some (.cells #[.int .i64 v.tm, .bool v.gone, .int .i64 v.doc.k, .int .i64 v.doc.n, .string v.doc.t, s] 131)
theorem V6.new (U : World) (v : Ver) (s : Value) : V6 (U.alloc (.cells #[.int .i64 v.tm, .bool v.gone, .int .i64 v.doc.k, .int .i64 v.doc.n, .string v.doc.t, s] 131)) U.heap.size v s := ⟨by simp, heap_alloc_new _ _⟩

set_option maxRecDepth 4000 in
set_option maxHeartbeats 2000000 in
theorem seenAt_any (c : Col) (snap : Int) (g1 g2 : Nat) (cp cq : Nat) (w : World) (hr : RdC w g1 g2 c) (hs : SzCol c) :
    Calls Tryz.prog 53 #[.agg #[.string c.name, .slice (some ⟨g1, 0, none⟩) c.chs.length cp, .slice (some ⟨g2, 0, none⟩) c.dfs.length cq], .int .i64 snap] w fun e w' => SeenA (seenR c snap) w e w' := by
  have X0 := Boxed.start w (.string c.name) (.slice (some ⟨g1, 0, none⟩) c.chs.length cp) (.slice (some ⟨g2, 0, none⟩) c.dfs.length cq) 63
  have HC : Hid (Calls _ _ _ _ _) := collOK_any c (some ⟨g1, 0, none⟩) (some ⟨g2, 0, none⟩) cp cq (w.alloc (.cells #[.string c.name, .slice (some ⟨g1, 0, none⟩) c.chs.length cp, .slice (some ⟨g2, 0, none⟩) c.dfs.length cq] 63)) (hr.next X0.bel).ch.inCh (hr.next X0.bel).df hs
  have HR : Hid (RdC _ _ _ _) := hr
  have HSZ : Hid (SzCol c) := hs
  obtain ⟨i0, hi0, hz0, hz1, hz2⟩ := info_parts infoV
  clear hr hs
  cases hB : collB c
  · rw [seenR_bad c snap hB]
    rw [hB] at HC
    clear hB
    go_enter Tryz.func53, Tryz.ntmps53
    go_wp2_with fail
    refine HC.out.mono ?_
    rintro e w1 ⟨rfl, hb⟩
    have hbw := (X0.step hb).bel
    clear hb
    go_wp2_with fail
    go_ret2
    exact ⟨⟨_, rfl, ⟨rfl, .inl ⟨rfl, rfl⟩⟩⟩, hbw⟩
  · rw [seenR_ok c snap hB]
    have hpt := collB_parts hB
    have h20 := hpt.2.2.2.1
    have HPT : Hid (∀ x ∈ c.chs, topB x.id = true ∧ 1 ≤ x.vs.length ∧ x.vs.length ≤ 12 ∧ versB x.id 0 x.vs = true) := hpt.2.2.2.2.2
    rw [hB] at HC
    obtain ⟨F, hF⟩ : ∃ F : Chn → Ver, F = fun x => (trP snap x.vs).1 := ⟨_, rfl⟩
    rw [← hF]
    have HF : Hid (F = _) := hF
    clear hB hpt hF
    go_enter Tryz.func53, Tryz.ntmps53
    go_wp2_with fail
    refine HC.out.mono ?_
    rintro e w1 ⟨rfl, hb⟩
    have X1 := X0.step hb
    have c1 := X1.c1
    have HB1 : Hid (Below _ _ _) := X1.bel
    clear hb HC X0
    go_wp2_with fail
    clear c1 X1
    go_loopw [6, 16] (fun u i wr => ∃ k : Nat, k ≤ c.chs.length ∧ i = .int .i64 k ∧ wr.ownsRow w.heap.size 68 3 u (seenG F (c.chs.take k)).length (flat (seenG F (c.chs.take k))) ∧ Below w.heap.size w wr) (fun _ i _ => c.chs.length - (intOf i).toNat)
    case atStart => exact ⟨0, Nat.zero_le _, rfl, ⟨rfl, .inl ⟨rfl, rfl⟩⟩, HB1.out⟩
    case round =>
      obtain ⟨k, hk, rfl, hown, hbel⟩ := hrel
      have HO : Hid (World.ownsRow _ _ _ _ _ _ _) := hown
      have hzr := hbel.size
      clear hown HB1
      by_cases hlt : k < c.chs.length
      · have RDk := HR.out.next hbel
        obtain ⟨x0, pv, cv, x1, hcv, hT⟩ := RDk.ch.cells k hlt
        have hgl := RDk.ch.lt
        have hlt2 : (k : Int) < (c.chs.length : Int) := by omega
        have hvl := (HPT.out c.chs[k] (List.getElem_mem _)).2.2.1
        have hsz := trP_sz HSZ.out (List.getElem_mem (l := c.chs) hlt) snap
        have HGO : Hid ((F c.chs[k]).gone = true → seenG F (c.chs.take (k + 1)) = seenG F (c.chs.take k)) := fun e => seenG_gone F c.chs k hlt e
        have HTH : Hid ((F c.chs[k]).gone = false → seenG F (c.chs.take (k + 1)) = seenG F (c.chs.take k) ++ [(F c.chs[k]).doc]) := fun e => seenG_there F c.chs k hlt e
        have hll := seenG_len F (c.chs.take k)
        rw [List.length_take] at hll
        have HFk : Hid (F c.chs[k] = (trP snap c.chs[k].vs).1) := by rw [HF.out]; rfl
        obtain ⟨x, hx⟩ : ∃ x, x = c.chs[k] := ⟨_, rfl⟩
        rw [← hx] at x0 x1 hcv hT hvl hsz HGO HTH HFk
        have B0 := Box2.start wr (.int .i64 x.id) (.slice pv x.vs.length cv) 66
        have HTR : Hid (Calls _ _ _ _ _) := trackAt_any x.id snap pv cv x.vs (wr.alloc (.cells #[.int .i64 x.id, .slice pv x.vs.length cv] 66)) (hT.step B0.bel) (by omega) hcv
        rw [← HFk.out] at hsz HTR
        have HOW : Hid (∀ W : World, Calls _ _ _ W _) := fun W => ownVer_any (F x) W hsz
        obtain ⟨V, hV⟩ : ∃ V, V = F x := ⟨_, rfl⟩
        rw [← hV] at HGO HTH HTR HOW
        obtain ⟨L, hL⟩ : ∃ L, L = seenG F (c.chs.take k) := ⟨_, rfl⟩
        rw [← hL] at HGO HTH hll HO
        clear RDk hT hvl hsz HFk hx hV hL hcv
        go_wp2_with fail
        refine HTR.out.mono ?_
        rintro e w2 ⟨⟨p', c', rfl, _, _⟩, hb⟩
        have B2 : Below wr.heap.size wr w2 := B0.bel.trans (hb.mono B0.bel.size)
        have hbA : Below w2.heap.size w2 (w2.alloc (.cells #[.int .i64 V.tm, .bool V.gone, .int .i64 V.doc.k, .int .i64 V.doc.n, .string V.doc.t, .slice p' (trP snap x.vs).2.length c'] 131)) := (Below.refl _ _).alloc (Nat.le_refl _) _
        have B3 := B2.trans (hbA.mono B2.size)
        have K3 := V6.new w2 V (.slice p' (trP snap x.vs).2.length c')
        have O3 := owns_below HO.out B3
        have hb3 := hbel.trans (B3.mono hbel.size)
        obtain ⟨q0, q1, q2, q3, q4, q5⟩ := six K3.cb
        clear hb B0 hbA B2 HTR HO B3 x0 x1
        generalize hNN : (trP snap x.vs).2.length = NN at K3 O3 hb3 q0 q1 q2 q3 q4 q5 ⊢
        clear hNN
        cases hg : V.gone
        · have hnx := HTH.out hg
          have HNX : Hid (_ = _) := hnx
          rw [hg] at K3 O3 hb3 q0 q1 q2 q3 q4 q5 HOW
          have HO3 : Hid (World.ownsRow _ _ _ _ _ _ _) := O3
          clear HGO HTH hnx hg O3
          go_wp2_with fail
          generalize w2.alloc (.cells #[.int .i64 V.tm, .bool false, .int .i64 V.doc.k, .int .i64 V.doc.n, .string V.doc.t, .slice p' NN c'] 131) = W3 at K3 HO3 hb3 q0 q1 q2 q3 q4 q5 ⊢
          refine (HOW.out _).mono ?_
          rintro e w4 ⟨rfl, hb⟩
          have O4 := owns_below HO3.out hb
          have hb4 := hb3.trans (hb.mono hb3.size)
          have hz4 := hb4.size
          have hfld : ∀ W : World, (Instr.field 70 (.agg #[.int .i64 V.tm, .bool false, .int .i64 V.doc.k, .int .i64 V.doc.n, .string V.doc.t]) 2).run Tryz.prog W = .ok (.agg #[.int .i64 V.doc.k, .int .i64 V.doc.n, .string V.doc.t]) W := fun _ => by kernel_rfl
          clear hb HOW HO3 hb3 K3 q0 q1 q2 q3 q4 q5
          go_wp2_with (at_builtin; refine wpList_append_own _ rfl (.tmp 27) (.tmp 32) 45 rfl w.heap.size 68 i0 (.agg #[.int .i64 0, .int .i64 0, .string em]) 3 32 Tryz.underlying45 hi0 hz0 hz1 hz2 rfl (by decide) _ _ _ rfl (O4.alloc _) ⟨w4.heap.size, 0, none⟩ 1 1 (row V.doc) rfl rfl ?c1 ?c2 ?c3 ?c4 ?c5 ?_)
          case c1 =>
            intro j u hj
            match j, hj with
            | 0, hj => simp [row] at hj; subst hj; simp [Addr.add, go_sem]
            | 1, hj => simp [row] at hj; subst hj; simp [Addr.add, go_sem]
            | 2, hj => simp [row] at hj; subst hj; simp [Addr.add, go_sem]
            | j + 3, hj => simp [row] at hj
          case c2 => intro u hu; simp [row] at hu; rcases hu with rfl | rfl | rfl <;> rfl
          case c3 => unfold maxLen; omega
          case c4 => omega
          case c5 => simp; omega
          intro v' w6 hown6 hgrow hnv
          have B6 : Below w.heap.size w w6 := Below.grown (hb4.alloc (by omega) _) hgrow (by simp; omega) (fun j hj => by have := (O4.lt j hj).1; omega)
          have HO6 : Hid (World.ownsRow _ _ _ _ _ _ _) := hown6
          clear hown6 hgrow hnv O4 hfld
          go_wp2_with fail
          go_roundw
          case rel => exact ⟨k + 1, by omega, by go_num, by rw [HNX.out, flat_snoc, List.length_append]; exact HO6.out, B6⟩
          case measure => simp [intOf]; omega
        · have hnx := HGO.out hg
          have HNX : Hid (_ = _) := hnx
          rw [hg] at K3 O3 hb3 q0 q1 q2 q3 q4 q5
          have HO3 : Hid (World.ownsRow _ _ _ _ _ _ _) := O3
          clear HGO HTH hnx hg O3 HOW
          go_wp2_with fail
          go_roundw
          case rel => exact ⟨k + 1, by omega, by go_num, by rw [HNX.out]; exact HO3.out, hb3⟩
          case measure => simp [intOf]; omega
      · have hlt2 : ¬ (k : Int) < (c.chs.length : Int) := by omega
        have ht : c.chs.take k = c.chs := List.take_of_length_le (by omega)
        rw [ht] at HO
        clear ht
        go_wp2_with fail
        go_ret2
        exact ⟨⟨_, rfl, HO.out⟩, hbel⟩

set_option maxRecDepth 4000 in
set_option maxHeartbeats 2000000 in
theorem l08Seen_any (n : ByteArray) (q : Value) (chs : List Chn) (snap : Int) (g1 cp : Nat) (w : World) (hr : ReadCc w g1 chs) (hl : chs.length ≤ 1048576) (hs : ∀ x ∈ chs, x.vs.length ≤ 1048576) :
    Calls Tryz.prog 51 #[.agg #[.string n, .slice (some ⟨g1, 0, none⟩) chs.length cp, q], .int .i64 snap] w fun e w' => (∃ v, e = .returned v ∧ w'.ownsRow w.heap.size 68 3 v (seenG (fun x => atS snap zG x.vs) chs).length (flat (seenG (fun x => atS snap zG x.vs) chs))) ∧ Below w.heap.size w w' := by
  have X0 := Boxed.start w (.string n) (.slice (some ⟨g1, 0, none⟩) chs.length cp) q 63
  obtain ⟨i0, hi0, hz0, hz1, hz2⟩ := info_parts infoV
  have HR : Hid (ReadCc _ _ _) := hr
  have HS : Hid _ := hs
  obtain ⟨F, hF⟩ : ∃ F : Chn → Ver, F = fun x => atS snap zG x.vs := ⟨_, rfl⟩
  rw [← hF]
  have HF : Hid (F = _) := hF
  have hbA : Below (w.alloc (.cells #[.string n, .slice (some ⟨g1, 0, none⟩) chs.length cp, q] 63)).heap.size (w.alloc (.cells #[.string n, .slice (some ⟨g1, 0, none⟩) chs.length cp, q] 63)) ((w.alloc (.cells #[.string n, .slice (some ⟨g1, 0, none⟩) chs.length cp, q] 63)).alloc (.cells #[] 68)) := (Below.refl _ _).alloc (Nat.le_refl _) _
  have O1 := World.ownsRow_made (base := w.heap.size + 1) (size := 3) (e := 68) (w.alloc (.cells #[.string n, .slice (some ⟨g1, 0, none⟩) chs.length cp, q] 63)) #[] 0 (by simp) (by unfold maxLen; omega) rfl
  rw [heap_size_alloc] at O1
  have X1 := X0.step hbA
  have HO1 : Hid (World.ownsRow _ _ _ _ _ _ _) := O1
  have HX1 : Hid (Boxed _ _ _ _ _) := X1
  clear hr hs hF O1 X1 X0 hbA
  go_enter Tryz.func51, Tryz.ntmps51
  go_wp2_with fail
  generalize ((w.alloc (.cells #[.string n, .slice (some ⟨g1, 0, none⟩) chs.length cp, q] 63)).alloc (.cells #[] 68)) = W0 at HX1 HO1 ⊢
  go_loopw [5, 6] (fun u i wr => ∃ k : Nat, k ≤ chs.length ∧ i = .int .i64 k ∧ wr.ownsRow (w.heap.size + 1) 68 3 u (seenG F (chs.take k)).length (flat (seenG F (chs.take k))) ∧ Boxed w wr (.string n) (.slice (some ⟨g1, 0, none⟩) chs.length cp) q) (fun _ i _ => chs.length - (intOf i).toNat)
  case atStart => exact ⟨0, Nat.zero_le _, rfl, HO1.out, HX1.out⟩
  case round =>
    obtain ⟨k, hk, rfl, hown, X⟩ := hrel
    have RDk := HR.out.next X.bel
    have HO : Hid (World.ownsRow _ _ _ _ _ _ _) := hown
    have c1 := X.c1
    have hzr := X.bel.size
    have hxl := X.lt
    clear hown HX1 HO1
    by_cases hlt : k < chs.length
    · obtain ⟨x0, pv, cv, x1, hcv, hT⟩ := RDk.cells k hlt
      have hgl := RDk.lt
      have hlt2 : (k : Int) < (chs.length : Int) := by omega
      have hvl := HS.out chs[k] (List.getElem_mem _)
      have HGO : Hid ((F chs[k]).gone = true → seenG F (chs.take (k + 1)) = seenG F (chs.take k)) := fun e => seenG_gone F chs k hlt e
      have HTH : Hid ((F chs[k]).gone = false → seenG F (chs.take (k + 1)) = seenG F (chs.take k) ++ [(F chs[k]).doc]) := fun e => seenG_there F chs k hlt e
      have hll := seenG_len F (chs.take k)
      rw [List.length_take] at hll
      have HFk : Hid (F chs[k] = atS snap zG chs[k].vs) := by rw [HF.out]; rfl
      obtain ⟨x, hx⟩ : ∃ x, x = chs[k] := ⟨_, rfl⟩
      rw [← hx] at x0 x1 hT hvl HGO HTH HFk
      have HTR : Hid (Calls _ _ _ _ _) := l08At_any x.id snap pv cv x.vs wr hT hvl
      rw [← HFk.out] at HTR
      obtain ⟨V, hV⟩ : ∃ V, V = F x := ⟨_, rfl⟩
      rw [← hV] at HGO HTH HTR
      obtain ⟨L, hL⟩ : ∃ L, L = seenG F (chs.take k) := ⟨_, rfl⟩
      rw [← hL] at HGO HTH hll HO
      have HX : Hid (Boxed _ _ _ _ _) := X
      clear RDk hT hvl HFk hx hV hL hcv X
      go_wp2_with fail
      refine HTR.out.mono ?_
      rintro e w2 ⟨rfl, B2⟩
      have hbA : Below w2.heap.size w2 (w2.alloc (.cells #[.int .i64 V.tm, .bool V.gone, .int .i64 V.doc.k, .int .i64 V.doc.n, .string V.doc.t] 70)) := (Below.refl _ _).alloc (Nat.le_refl _) _
      have B3 := B2.trans (hbA.mono B2.size)
      have K3 := V5.new w2 V
      have O3 := owns_below HO.out B3
      have X3 := HX.out.step B3
      have hzB := B2.size
      clear hbA B2 HTR HO B3 x0 x1 HX c1
      obtain ⟨q0, q1, q2, q3, q4⟩ := five K3.cb
      cases hg : V.gone
      · have hnx := HTH.out hg
        have HNX : Hid (_ = _) := hnx
        rw [hg] at O3 X3 q0 q1 q2 q3 q4
        have HO3 : Hid (World.ownsRow _ _ _ _ _ _ _) := O3
        have HX3 : Hid (Boxed _ _ _ _ _) := X3
        clear HGO HTH hnx hg O3 X3 K3
        have hbb : Below (w2.alloc (.cells #[.int .i64 V.tm, .bool false, .int .i64 V.doc.k, .int .i64 V.doc.n, .string V.doc.t] 70)).heap.size (w2.alloc (.cells #[.int .i64 V.tm, .bool false, .int .i64 V.doc.k, .int .i64 V.doc.n, .string V.doc.t] 70)) ((w2.alloc (.cells #[.int .i64 V.tm, .bool false, .int .i64 V.doc.k, .int .i64 V.doc.n, .string V.doc.t] 70)).alloc (.cells #[.int .i64 V.doc.k, .int .i64 V.doc.n, .string V.doc.t] 68)) := (Below.refl _ _).alloc (Nat.le_refl _) _
        have HX4 : Hid (Boxed _ _ _ _ _) := HX3.out.step hbb
        clear HX3 hbb
        go_wp2_with (at_builtin; refine wpList_append_own _ rfl (.tmp 26) (.tmp 29) 45 rfl (w.heap.size + 1) 68 i0 (.agg #[.int .i64 0, .int .i64 0, .string em]) 3 32 Tryz.underlying45 hi0 hz0 hz1 hz2 rfl (by decide) _ _ _ rfl (HO3.out.alloc _) ⟨w2.heap.size + 1, 0, none⟩ 1 1 (row V.doc) rfl rfl ?c1 ?c2 ?c3 ?c4 ?c5 ?_)
        case c1 =>
          intro j u hj
          match j, hj with
          | 0, hj => simp [row] at hj; subst hj; simp [Addr.add, go_sem]
          | 1, hj => simp [row] at hj; subst hj; simp [Addr.add, go_sem]
          | 2, hj => simp [row] at hj; subst hj; simp [Addr.add, go_sem]
          | j + 3, hj => simp [row] at hj
        case c2 => intro u hu; simp [row] at hu; rcases hu with rfl | rfl | rfl <;> rfl
        case c3 => unfold maxLen; omega
        case c4 => omega
        case c5 => simp; omega
        intro v' w6 hown6 hgrow hnv
        have HX6 : Hid (Boxed _ _ _ _ _) := boxed_grown HX4.out hgrow (fun j hj => by have := (HO3.out.lt j hj).1; omega)
        have HO6 : Hid (World.ownsRow _ _ _ _ _ _ _) := hown6
        clear hown6 hgrow hnv HO3 HX4 q0 q1 q2 q3 q4
        go_wp2_with fail
        go_roundw
        case rel => exact ⟨k + 1, by omega, by go_num, by rw [HNX.out, flat_snoc, List.length_append]; exact HO6.out, HX6.out⟩
        case measure => simp [intOf]; omega
      · have hnx := HGO.out hg
        have HNX : Hid (_ = _) := hnx
        rw [hg] at O3 X3 q0 q1 q2 q3 q4
        have HO3 : Hid (World.ownsRow _ _ _ _ _ _ _) := O3
        have HX3 : Hid (Boxed _ _ _ _ _) := X3
        clear HGO HTH hnx hg O3 X3 K3
        go_wp2_with fail
        go_roundw
        case rel => exact ⟨k + 1, by omega, by go_num, by rw [HNX.out]; exact HO3.out, HX3.out⟩
        case measure => simp [intOf]; omega
    · have hlt2 : ¬ (k : Int) < (chs.length : Int) := by omega
      have ht : chs.take k = chs := List.take_of_length_le (by omega)
      rw [ht] at HO
      have hbw := X.bel
      clear ht
      go_wp2_with fail
      go_ret
      exact ⟨⟨_, rfl, owns_mono HO.out (by omega)⟩, hbw⟩

end Go.Proofs.YtpfbepbmiillbaaGreatDoor.Co
