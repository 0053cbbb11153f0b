/- The specification's keys of a document, whole. -/
import Derived.Test.YtdchhjnmhnehiaaGreatDoorDkyJ
import Derived.Test.YtdchhjnmhnehiaaGreatDoorTermT
import Derived.Test.YtdchhjnmhnehiaaGreatDoorTextU
import Derived.Test.YtdchhjnmhnehiaaGreatDoorDefS
import Derived.BigQuiet
namespace Go.Proofs.YtdchhjnmhnehiaaGreatDoor
open Go.RowKit Tr
set_option linter.unusedVariables false

theorem valsP_nil (p : ByteArray) (doc : Val) (h : getP (pieces p) doc = []) : valsP p doc = [nullV] := by unfold valsP; rw [if_pos h]
theorem valsP_some (p : ByteArray) (doc : Val) (h : ¬ getP (pieces p) doc = []) : valsP p doc = onceV [] (getP (pieces p) doc) := by unfold valsP; rw [if_neg h]
theorem dec_take (L : List Val) (v : Val) (j : Nat) (h : j < L.length) : decide (v ∈ L.take (j + 1)) = (decide (v ∈ L.take j) || decide (L[j] = v)) := by
  rw [List.take_succ_eq_append_getElem h, Bool.eq_iff_iff]
  simp only [List.mem_append, List.mem_singleton, Bool.or_eq_true, decide_eq_true_eq]
  exact ⟨fun h => h.imp_right Eq.symm, fun h => h.imp_right Eq.symm⟩

set_option maxRecDepth 8000 in
set_option maxHeartbeats 4000000 in
theorem l06Values_any (doc : Val) (p : ByteArray) (w : World) (hd : okB doc = true) (hp : p.size ≤ 50) :
    Calls Tryz.prog 70 #[.agg #[.int .i64 doc.k, .int .i64 doc.n, .string doc.t], .string p] w fun e w' => OutV (valsP p doc) w' e ∧ Below w.heap.size w w' := by
  obtain ⟨i0, hi0, hz0, hz1, hz2⟩ := info_parts infoV
  have X0 := Boxed.start w (.int .i64 doc.k) (.int .i64 doc.n) (.string doc.t) 38
  have hgl := getP_len (pieces p) doc
  have hds := okB_size doc hd
  have HV : Hid (∀ W : World, Calls Tryz.prog 98 #[.agg #[.int .i64 doc.k, .int .i64 doc.n, .string doc.t], .string p] W fun e w' => OutV (getP (pieces p) doc) w' e ∧ Below W.heap.size W w') := fun W => l02Values_any doc p W hd (by omega)
  have HN : Hid (getP (pieces p) doc = [] → valsP p doc = [nullV]) := valsP_nil p doc
  have HS : Hid (¬ getP (pieces p) doc = [] → valsP p doc = onceV [] (getP (pieces p) doc)) := valsP_some p doc
  obtain ⟨G, hG⟩ : ∃ G, G = getP (pieces p) doc := ⟨_, rfl⟩
  rw [← hG] at hgl HV HN HS
  clear hG hd
  go_enter Tryz.func70, Tryz.ntmps70
  go_wp2_with fail
  refine (HV.out _).mono ?_
  rintro e w1 ⟨⟨g, cg, rfl, R1⟩, hb⟩
  have hbw := (X0.step hb).bel
  have HR1 : Hid (ReadV _ _ _) := R1
  clear hb X0 HV R1
  by_cases hn : G = []
  · have HE : Hid (_ = _) := HN.out hn
    subst hn
    clear HN HS
    go_wp2_with fail
    go_ret
    refine ⟨OutV.mk w1.heap.size 1 ?_ ?_, hbw.alloc hbw.size _⟩
    · rw [HE.out]; rfl
    · rw [HE.out]
      exact ReadV.of_own (owns_one w1 nullV (base := 0) (Nat.zero_le _))
  have HE : Hid (_ = _) := HS.out hn
  have hn0 : ((G.length : Int) == 0) = false := by
    rw [beq_eq_false_iff_ne]
    intro e; apply hn; exact List.eq_nil_of_length_eq_zero (by omega)
  have O1 := World.ownsRow_made (base := w1.heap.size) (size := 3) (e := 38) w1 #[] 0 (Nat.le_refl _) (by unfold maxLen; omega) rfl
  have HO1 : Hid (World.ownsRow _ _ _ _ _ _ _) := O1
  have HB1 : Hid (Below w1.heap.size w1 (w1.alloc (.cells #[] 38))) := (Below.refl _ _).alloc (Nat.le_refl _) _
  clear O1 HN HS hn
  go_wp2_with fail
  go_loopw [6, 7] (fun u i wr => ∃ q : Nat, q ≤ G.length ∧ i = .int .i64 q ∧ wr.ownsRow w1.heap.size 38 3 u (onceV [] (G.take q)).length (flat (onceV [] (G.take q))) ∧ (¬ u = .slice none 0 0) ∧ Below w1.heap.size w1 wr) (fun _ i _ => G.length - (intOf i).toNat)
  case atStart => exact ⟨0, Nat.zero_le _, rfl, by rw [List.take_zero]; exact HO1.out, by simp, HB1.out⟩
  case round =>
    obtain ⟨q, hq, rfl, hown, hnn, hbel⟩ := hrel
    have hz := hbel.size
    have hol := onceV_len (G.take q) []
    rw [List.length_take, List.length_nil] at hol
    clear HO1 HB1
    by_cases hlt : q < G.length
    · have R := HR1.out.next hbel
      obtain ⟨x0, x1, x2⟩ := R.cells q hlt
      have hgr := R.lt
      have hnx := onceV_take G q hlt
      obtain ⟨v, hv⟩ : ∃ v, v = G[q] := ⟨_, rfl⟩
      obtain ⟨L, hL⟩ : ∃ L, L = onceV [] (G.take q) := ⟨_, rfl⟩
      rw [← hv] at x0 x1 x2
      rw [← hv, ← hL] at hnx
      rw [← hL] at hown hol
      obtain ⟨gu, cu, hu⟩ := owns_shape hown hnn
      subst hu
      have RU := ReadV.of_own hown
      have HRU : Hid (ReadV _ _ _) := RU
      have HO : Hid (World.ownsRow _ _ _ _ _ _ _) := hown
      have HNX : Hid (_ = _) := hnx
      have HBL : Hid (Below _ _ _) := hbel
      have hgu := RU.lt
      have hq2 : (q : Int) < (G.length : Int) := by omega
      clear R hv hL hown RU hnx hnn hbel
      obtain ⟨Wq, rfl⟩ : ∃ W, W = wr := ⟨_, rfl⟩
      go_wp2_with fail
      go_loopw [8, 9] (fun kb j wr => ∃ m : Nat, m ≤ L.length ∧ j = .int .i64 m ∧ kb = .bool (decide (v ∈ L.take m)) ∧ Below Wq.heap.size Wq wr) (fun _ j _ => L.length - (intOf j).toNat)
      case atStart => exact ⟨0, Nat.zero_le _, rfl, by simp, Below.refl _ _⟩
      case round =>
        obtain ⟨m, hm, rfl, rfl, hbm⟩ := hrel
        have y0 := (hbm.cell (p := ⟨g, q * 3, none⟩) hgr).trans x0
        have y1 := (hbm.cell (p := ⟨g, q * 3 + 1, none⟩) hgr).trans x1
        have y2 := (hbm.cell (p := ⟨g, q * 3 + 2, none⟩) hgr).trans x2
        have hzm := hbm.size
        have hgr2 : g < wr.heap.size := by omega
        by_cases hlm : m < L.length
        · have hm2 : (m : Int) < (L.length : Int) := by omega
          obtain ⟨u0, u1, u2⟩ := (HRU.out.next hbm).cells m hlm
          have hgu2 : gu < wr.heap.size := by omega
          have htk := dec_take L v m hlm
          obtain ⟨t, ht⟩ : ∃ t, t = L[m] := ⟨_, rfl⟩
          rw [← ht] at u0 u1 u2 htk
          obtain ⟨K, hK⟩ : ∃ K, K = decide (v ∈ L.take m) := ⟨_, rfl⟩
          rw [← hK] at htk ⊢
          clear hK ht
          cases K
          · rw [Bool.false_or] at htk
            have hve := val_eq t v
            by_cases he : t = v
            · rw [decide_eq_true he] at hve htk
              simp only [Bool.and_eq_true] at hve
              obtain ⟨q1, q2, q3⟩ := hve
              have HTK : Hid (_ = _) := htk
              clear htk he
              go_wp2_with fail
              go_quiet (fail)
              go_wp2_with fail
              go_roundw
              case rel => exact ⟨m + 1, by omega, by go_num, by rw [HTK.out], by (repeat (first | (with_reducible exact Below.refl _ _) | (with_reducible assumption) | (with_reducible apply below_drewN) | (with_reducible apply Below.drew) | ((with_reducible refine Below.setCell ?_ ?_ _); rotate_left; focus (first | (simp; done) | (simp; omega) | omega)) | ((with_reducible refine Below.alloc ?_ ?_ _); rotate_left; focus (first | (simp; done) | (simp; omega) | omega))))⟩
              case measure => simp [intOf]; omega
            · have hne := val_ne t v he
              rw [decide_eq_false he] at htk
              have HTK : Hid (_ = _) := htk
              clear htk he hve
              rcases hne with q1 | ⟨q1, q2⟩ | ⟨q1, q2, q3⟩
              all_goals
                go_wp2_with fail
                go_quiet (fail)
                go_wp2_with fail
                go_roundw
                case rel => exact ⟨m + 1, by omega, by go_num, by rw [HTK.out], by (repeat (first | (with_reducible exact Below.refl _ _) | (with_reducible assumption) | (with_reducible apply below_drewN) | (with_reducible apply Below.drew) | ((with_reducible refine Below.setCell ?_ ?_ _); rotate_left; focus (first | (simp; done) | (simp; omega) | omega)) | ((with_reducible refine Below.alloc ?_ ?_ _); rotate_left; focus (first | (simp; done) | (simp; omega) | omega))))⟩
                case measure => simp [intOf]; omega
          · rw [Bool.true_or] at htk
            have HTK : Hid (_ = _) := htk
            clear htk
            go_wp2_with fail
            go_quiet (fail)
            go_wp2_with fail
            go_roundw
            case rel => exact ⟨m + 1, by omega, by go_num, by rw [HTK.out], by (repeat (first | (with_reducible exact Below.refl _ _) | (with_reducible assumption) | (with_reducible apply below_drewN) | (with_reducible apply Below.drew) | ((with_reducible refine Below.setCell ?_ ?_ _); rotate_left; focus (first | (simp; done) | (simp; omega) | omega)) | ((with_reducible refine Below.alloc ?_ ?_ _); rotate_left; focus (first | (simp; done) | (simp; omega) | omega))))⟩
            case measure => simp [intOf]; omega
        · have hm2 : ¬ (m : Int) < (L.length : Int) := by omega
          rw [List.take_of_length_le (by omega)]
          obtain ⟨K, hK⟩ : ∃ K, K = decide (v ∈ L) := ⟨_, rfl⟩
          rw [← hK]
          have HK : Hid (_ = _) := hK
          clear hK
          have O3 := owns_below HO.out hbm
          have hb3 := HBL.out.trans (hbm.mono hz)
          have hz3 := hb3.size
          cases K
          · have hnx2 : onceV [] (G.take (q + 1)) = L ++ [v] := by rw [HNX.out, if_neg (by have := HK.out.symm; simpa using this)]
            have HN2 : Hid (_ = _) := hnx2
            clear hnx2
            go_wp2_with (at_builtin; refine wpList_append_own _ rfl (.tmp 45) (.tmp 50) 107 rfl w1.heap.size 38 i0 (.agg #[.int .i64 0, .int .i64 0, .string em]) 3 32 Tryz.underlying107 hi0 hz0 hz1 hz2 rfl (by decide) _ _ _ rfl (O3.alloc _) ⟨wr.heap.size, 0, none⟩ 1 1 (row v) rfl rfl (val_new _ _) (val_one _) (by unfold maxLen; omega) (by omega) (by simp; omega) ?_)
            intro v' w6 hown6 hgrow hnv
            have B6 : Below w1.heap.size w1 w6 := Below.grown (hb3.alloc (by omega) _) hgrow (by simp; omega) (fun j hj => by have := (O3.lt j hj).1; omega)
            have HO6 : Hid (World.ownsRow _ _ _ _ _ _ _) := hown6
            have HN6 : Hid (¬ v' = .slice none 0 0) := fun e => by
              rw [e] at hown6
              have h6 := hown6.1
              rcases hown6.2 with ⟨_, h0⟩ | ⟨_, _, _, e', _⟩
              · omega
              · cases e'
            clear hown6 hgrow hnv O3
            go_wp2_with fail
            go_roundw
            case rel => exact ⟨q + 1, by omega, by go_num, by rw [HN2.out, flat_snoc, List.length_append]; exact HO6.out, HN6.out, B6⟩
            case measure => simp [intOf]; omega
          · have hnx2 : onceV [] (G.take (q + 1)) = L := by rw [HNX.out, if_pos (by have := HK.out.symm; simpa using this)]
            have HN2 : Hid (_ = _) := hnx2
            have HO3 : Hid (World.ownsRow _ _ _ _ _ _ _) := O3
            clear hnx2 O3
            go_wp2_with fail
            go_roundw
            case rel => exact ⟨q + 1, by omega, by go_num, by rw [HN2.out]; exact HO3.out, by simp, hb3⟩
            case measure => simp [intOf]; omega
    · have hq2 : ¬ (q : Int) < (G.length : Int) := by omega
      rw [List.take_of_length_le (by omega)] at hown
      obtain ⟨gu, cu, hu⟩ := owns_shape hown hnn
      subst hu
      have HRU : Hid (ReadV _ _ _) := ReadV.of_own hown
      have hb3 := hbw.trans (hbel.mono hbw.size)
      clear hown hnn
      go_wp2_with fail
      go_ret
      refine ⟨OutV.mk gu cu ?_ ?_, hb3⟩
      · rw [HE.out]; rfl
      · rw [HE.out]; exact HRU.out

theorem keepA {W w0 : World} {b gp o1 : Nat} {a0 c0 c1 c2 e0 : Value} (m : b < W.heap.size) (m2 : b + 1 < W.heap.size) (m3 : gp < W.heap.size) (x0 : W.cell? ⟨b, 1, none⟩ = some a0) (y0 : W.cell? ⟨b + 1, 0, none⟩ = some c0) (y1 : W.cell? ⟨b + 1, 1, none⟩ = some c1) (y2 : W.cell? ⟨b + 1, 2, none⟩ = some c2) (z0 : W.cell? ⟨gp, o1, none⟩ = some e0) (hb : Below W.heap.size W w0) :
    w0.cell? ⟨b, 1, none⟩ = some a0 ∧ w0.cell? ⟨b + 1, 0, none⟩ = some c0 ∧ w0.cell? ⟨b + 1, 1, none⟩ = some c1 ∧ w0.cell? ⟨b + 1, 2, none⟩ = some c2 ∧ w0.cell? ⟨gp, o1, none⟩ = some e0 :=
  ⟨(hb.cell m).trans x0, (hb.cell m2).trans y0, (hb.cell m2).trans y1, (hb.cell m2).trans y2, (hb.cell m3).trans z0⟩
theorem keepB {W w0 : World} {b gp o1 gM o2 gV o3 : Nat} {a0 e0 s0 v0 v1 v2 : Value} (m : b < W.heap.size) (m3 : gp < W.heap.size) (m4 : gM < W.heap.size) (m5 : gV < W.heap.size) (x0 : W.cell? ⟨b, 1, none⟩ = some a0) (z0 : W.cell? ⟨gp, o1, none⟩ = some e0) (y0 : W.cell? ⟨gM, o2, none⟩ = some s0) (t0 : W.cell? ⟨gV, o3, none⟩ = some v0) (t1 : W.cell? ⟨gV, o3 + 1, none⟩ = some v1) (t2 : W.cell? ⟨gV, o3 + 2, none⟩ = some v2) (hb : Below W.heap.size W w0) :
    w0.cell? ⟨b, 1, none⟩ = some a0 ∧ w0.cell? ⟨gp, o1, none⟩ = some e0 ∧ w0.cell? ⟨gM, o2, none⟩ = some s0 ∧ w0.cell? ⟨gV, o3, none⟩ = some v0 ∧ w0.cell? ⟨gV, o3 + 1, none⟩ = some v1 ∧ w0.cell? ⟨gV, o3 + 2, none⟩ = some v2 :=
  ⟨(hb.cell m).trans x0, (hb.cell m3).trans z0, (hb.cell m4).trans y0, (hb.cell m5).trans t0, (hb.cell m5).trans t1, (hb.cell m5).trans t2⟩
theorem strV_strs (l : List ByteArray) : strV l = strs l := rfl

set_option maxRecDepth 8000 in
set_option maxHeartbeats 8000000 in
theorem l06Keys_any (n : ByteArray) (p : Option Addr) (cap : Nat) (ps : List Prt) (doc : Val) (w : World) (hr : RowD w p ps) (hd : okB doc = true) (hl : ps.length ≤ 2) (hp : ∀ v ∈ ps, v.path.size ≤ 50) :
    Calls Tryz.prog 40 #[.agg #[.string n, .slice p ps.length cap], .agg #[.int .i64 doc.k, .int .i64 doc.n, .string doc.t]] w fun e w' => (∃ v, e = .returned v ∧ OwnS w' w.heap.size v (docK ps doc)) ∧ Below w.heap.size w w' := by
  have hb0 : Below w.heap.size w ((w.alloc (.cells #[.string n, .slice p ps.length cap] 31)).alloc (.cells #[.int .i64 doc.k, .int .i64 doc.n, .string doc.t] 38)) := ((Below.refl _ _).alloc (Nat.le_refl _) _).alloc (by simp) _
  have n0 : ((w.alloc (.cells #[.string n, .slice p ps.length cap] 31)).alloc (.cells #[.int .i64 doc.k, .int .i64 doc.n, .string doc.t] 38)).cell? ⟨w.heap.size, 0, none⟩ = some (.string n) := by simp [go_sem]
  have n1 : ((w.alloc (.cells #[.string n, .slice p ps.length cap] 31)).alloc (.cells #[.int .i64 doc.k, .int .i64 doc.n, .string doc.t] 38)).cell? ⟨w.heap.size, 1, none⟩ = some (.slice p ps.length cap) := by simp [go_sem]
  have d0 : ((w.alloc (.cells #[.string n, .slice p ps.length cap] 31)).alloc (.cells #[.int .i64 doc.k, .int .i64 doc.n, .string doc.t] 38)).cell? ⟨w.heap.size + 1, 0, none⟩ = some (.int .i64 doc.k) := by simp [go_sem]
  have d1 : ((w.alloc (.cells #[.string n, .slice p ps.length cap] 31)).alloc (.cells #[.int .i64 doc.k, .int .i64 doc.n, .string doc.t] 38)).cell? ⟨w.heap.size + 1, 1, none⟩ = some (.int .i64 doc.n) := by simp [go_sem]
  have d2 : ((w.alloc (.cells #[.string n, .slice p ps.length cap] 31)).alloc (.cells #[.int .i64 doc.k, .int .i64 doc.n, .string doc.t] 38)).cell? ⟨w.heap.size + 1, 2, none⟩ = some (.string doc.t) := by simp [go_sem]
  have hs0 : ((w.alloc (.cells #[.string n, .slice p ps.length cap] 31)).alloc (.cells #[.int .i64 doc.k, .int .i64 doc.n, .string doc.t] 38)).heap.size = w.heap.size + 2 := by simp
  have HR : Hid (RowD _ _ _) := hr.next hb0
  have HP : Hid (∀ v ∈ ps, v.path.size ≤ 50) := hp
  have HD : Hid (okB doc = true) := hd
  clear hr hp hd
  go_enter Tryz.func40, Tryz.ntmps40
  go_wp2_with fail
  generalize (w.alloc (.cells #[.string n, .slice p ps.length cap] 31)).alloc (.cells #[.int .i64 doc.k, .int .i64 doc.n, .string doc.t] 38) = W0 at hb0 n0 n1 d0 d1 d2 hs0 HR ⊢
  have HO0 : Hid (OwnS (W0.alloc (.cells #[.string em] 9)) (w.heap.size + 2) (.slice (some ⟨W0.heap.size, 0, none⟩) 1 1) [em]) := ownS_one W0 em (by omega)
  have HB0 : Hid (Below (w.heap.size + 2) W0 (W0.alloc (.cells #[.string em] 9))) := (Below.refl _ _).alloc (by omega) _
  have HS0 : Hid (_ = _) := hs0
  rw [hs0] at HO0
  clear hs0
  go_loopw [5, 6] (fun u i wr => ∃ q : Nat, q ≤ ps.length ∧ i = .int .i64 q ∧ OwnS wr (w.heap.size + 2) u (docK (ps.take q) doc) ∧ Below (w.heap.size + 2) W0 wr) (fun _ i _ => ps.length - (intOf i).toNat)
  case atStart => exact ⟨0, Nat.zero_le _, rfl, by rw [List.take_zero]; exact HO0.out, HB0.out⟩
  case round =>
    obtain ⟨q, hq, rfl, hown, hbel⟩ := hrel
    have hz : w.heap.size + 2 ≤ wr.heap.size := by have := hbel.size; have := HS0.out; omega
    have a1 := (hbel.cell (p := ⟨w.heap.size, 1, none⟩) (by show w.heap.size < w.heap.size + 2; omega)).trans n1
    have b1 := (hbel.cell (p := ⟨w.heap.size + 1, 0, none⟩) (by show w.heap.size + 1 < w.heap.size + 2; omega)).trans d0
    have b2 := (hbel.cell (p := ⟨w.heap.size + 1, 1, none⟩) (by show w.heap.size + 1 < w.heap.size + 2; omega)).trans d1
    have b3 := (hbel.cell (p := ⟨w.heap.size + 1, 2, none⟩) (by show w.heap.size + 1 < w.heap.size + 2; omega)).trans d2
    have hl0 : w.heap.size < wr.heap.size := by omega
    have hl1 : w.heap.size + 1 < wr.heap.size := by omega
    clear HO0 HB0
    by_cases hlt : q < ps.length
    · have hq2 : (q : Int) < (ps.length : Int) := by omega
      have hbd := docK_bounds doc HD.out q (ps.take q) (by rw [List.length_take]; omega) (by omega)
      have HTK : Hid (docK (ps.take (q + 1)) doc = eachW (docK (ps.take q) doc) (keysP ps[q] doc)) := docK_take ps doc q hlt
      rcases HR.out.next (show Below W0.heap.size W0 wr by rw [HS0.out]; exact hbel) with h0 | ⟨gp, rfl, R⟩
      · subst h0; simp at hlt
      obtain ⟨x0, x1⟩ := R.cells q hlt
      have hgp := R.lt
      obtain ⟨pt, hpt⟩ : ∃ pt, pt = ps[q] := ⟨_, rfl⟩
      have hps : pt.path.size ≤ 50 := by rw [hpt]; exact HP.out _ (List.getElem_mem _)
      rw [← hpt] at x0 x1 HTK
      have hvl := valsP_len pt.path doc HD.out
      have HVO : Hid (∀ v ∈ valsP pt.path doc, okB v = true) := valsP_ok pt.path doc HD.out
      obtain ⟨M, hM⟩ : ∃ M, M = docK (ps.take q) doc := ⟨_, rfl⟩
      rw [← hM] at hown HTK hbd
      have hml : M.length ≤ 301 := by
        have h1 := hbd.1
        have h2 : (301 : Nat) ^ q ≤ 301 ^ 1 := Nat.pow_le_pow_right (by omega) (by omega)
        omega
      have hm1 := hbd.2.2
      have HMS : Hid (∀ s ∈ M, s.size ≤ 100000) := fun s hs => by have := hbd.2.1 s hs; have : 6622 * q ≤ 6622 * 2 := Nat.mul_le_mul_left _ (by omega); omega
      obtain ⟨gM, cM, rfl, hgM1, hgM2⟩ : ∃ gM cM, u5 = .slice (some ⟨gM, 0, none⟩) M.length cM ∧ w.heap.size + 2 ≤ gM ∧ gM < wr.heap.size := by
        rcases OwnS.form hown with ⟨_, h0⟩ | h
        · rw [h0] at hm1; simp at hm1
        · exact h
      have HMC : Hid (∀ m (h : m < M.length), wr.cell? ⟨gM, m, none⟩ = some (.string M[m])) := fun m h => by
        obtain ⟨p', c', e', i'⟩ := OwnS.in1 hown
        injection e' with e1
        rcases i' with h0 | ⟨g', e2, _, hc⟩
        · omega
        · rw [← e1] at e2; injection e2 with e2; injection e2 with e2; rw [e2]; exact hc m h
      have HVA : Hid (∀ W : World, Calls Tryz.prog 70 #[.agg #[.int .i64 doc.k, .int .i64 doc.n, .string doc.t], .string pt.path] W fun e w' => OutV (valsP pt.path doc) w' e ∧ Below W.heap.size W w') := fun W => l06Values_any doc pt.path W HD.out hps
      have HKP : Hid (keysP pt doc = (valsP pt.path doc).map (keyD pt.desc)) := rfl
      obtain ⟨V, hV⟩ : ∃ V, V = valsP pt.path doc := ⟨_, rfl⟩
      rw [← hV] at hvl HVO HVA HKP
      clear R hpt hM hown hbd hV
      have HBL : Hid (Below _ _ _) := hbel
      clear hbel
      obtain ⟨Wq, rfl⟩ : ∃ W, W = wr := ⟨_, rfl⟩
      go_wp2_with fail
      go_region_held3 (fun w0 => w0.cell? ⟨w.heap.size, 1, none⟩ = some (.slice (some ⟨gp, 0, none⟩) ps.length cap) ∧ w0.cell? ⟨w.heap.size + 1, 0, none⟩ = some (.int .i64 doc.k) ∧ w0.cell? ⟨w.heap.size + 1, 1, none⟩ = some (.int .i64 doc.n) ∧ w0.cell? ⟨w.heap.size + 1, 2, none⟩ = some (.string doc.t) ∧ w0.cell? ⟨gp, q * 2, none⟩ = some (.string pt.path)) ((refine keepA hl0 hl1 hgp a1 b1 b2 b3 x0 ?_; (repeat (first | (with_reducible exact Below.refl _ _) | (with_reducible assumption) | (with_reducible apply below_drewN) | (with_reducible apply Below.drew) | ((with_reducible refine Below.setCell ?_ ?_ _); rotate_left; focus (first | (simp; done) | (simp; omega) | omega)) | ((with_reducible refine Below.alloc ?_ ?_ _); rotate_left; focus (first | (simp; done) | (simp; omega) | omega)))))) ((go_at_call 70; refine (HVA.out _).mono ?_; rintro e wa ⟨⟨gV, cV, rfl, RV⟩, hb⟩; have hBa : Below Wq.heap.size Wq wa := (show Below Wq.heap.size Wq _ by (repeat (first | (with_reducible exact Below.refl _ _) | (with_reducible assumption) | (with_reducible apply below_drewN) | (with_reducible apply Below.drew) | ((with_reducible refine Below.setCell ?_ ?_ _); rotate_left; focus (first | (simp; done) | (simp; omega) | omega)) | ((with_reducible refine Below.alloc ?_ ?_ _); rotate_left; focus (first | (simp; done) | (simp; omega) | omega))))).trans (hb.mono (by first | (simp; done) | (simp; omega) | omega)); have hsa := hBa.size; have HRV : Hid (ReadV _ _ _) := RV; clear hb RV))
      have A1 := (hBa.cell (p := ⟨w.heap.size, 1, none⟩) hl0).trans a1
      have X1 := (hBa.cell (p := ⟨gp, q * 2 + 1, none⟩) hgp).trans x1
      have HMA : Hid (∀ m (h : m < M.length), wa.cell? ⟨gM, m, none⟩ = some (.string M[m])) := fun m h => (hBa.cell (p := ⟨gM, m, none⟩) hgM2).trans (HMC.out m h)
      have k0 : w.heap.size < wa.heap.size := by omega
      have kp : gp < wa.heap.size := by omega
      have kM : gM < wa.heap.size := by omega
      have kV : gV < wa.heap.size := HRV.out.lt
      have O2 := World.ownsRow_made (base := wa.heap.size) (size := 1) (e := 9) wa #[] 0 (Nat.le_refl _) (by unfold maxLen; omega) rfl
      have HO2 : Hid (World.ownsRow _ _ _ _ _ _ _) := O2
      have HB2 : Hid (Below wa.heap.size wa (wa.alloc (.cells #[] 9))) := (Below.refl _ _).alloc (Nat.le_refl _) _
      have HBA : Hid (Below (w.heap.size + 2) W0 wa) := HBL.out.trans (hBa.mono hz)
      have hza : w.heap.size + 2 ≤ wa.heap.size := by omega
      clear O2 a1 b1 b2 b3 x0 x1 HMC HVA HBL hBa
      go_wp2_with fail
      go_loopw [8, 9] (fun u i wr => ∃ m : Nat, m ≤ M.length ∧ i = .int .i64 m ∧ OwnS wr wa.heap.size u (eachW (M.take m) (V.map (keyD pt.desc))) ∧ Below wa.heap.size wa wr) (fun _ i _ => M.length - (intOf i).toNat)
      case atStart => exact ⟨0, Nat.zero_le _, rfl, by rw [List.take_zero]; exact HO2.out, HB2.out⟩
      case round =>
        obtain ⟨m, hm, rfl, hown, hbel⟩ := hrel
        have hzm := hbel.size
        clear HO2 HB2
        by_cases hlm : m < M.length
        · have hm2 : (m : Int) < (M.length : Int) := by omega
          have y0 := HMA.out m hlm
          have HTM : Hid (eachW (M.take (m + 1)) (V.map (keyD pt.desc)) = eachW (M.take m) (V.map (keyD pt.desc)) ++ (V.map (keyD pt.desc)).map (fun t => M[m] ++ t)) := eachW_take M _ m hlm
          have hsm := HMS.out M[m] (List.getElem_mem _)
          have hel : (eachW (M.take m) (V.map (keyD pt.desc))).length ≤ 301 * 301 := by
            rw [eachW_len]; exact Nat.mul_le_mul (by rw [List.length_take]; omega) (by rw [List.length_map]; omega)
          obtain ⟨s, hs⟩ : ∃ s, s = M[m] := ⟨_, rfl⟩
          rw [← hs] at y0 HTM hsm
          obtain ⟨N, hN⟩ : ∃ N, N = eachW (M.take m) (V.map (keyD pt.desc)) := ⟨_, rfl⟩
          rw [← hN] at hown HTM hel
          have HO : Hid (OwnS _ _ _ _) := hown
          have HBM : Hid (Below _ _ _) := hbel
          clear hs hN hown hbel
          obtain ⟨Wm, rfl⟩ : ∃ W, W = wr := ⟨_, rfl⟩
          go_wp2_with fail
          go_loopw [8, 10] (fun u j wr => ∃ k : Nat, k ≤ V.length ∧ j = .int .i64 k ∧ OwnS wr wa.heap.size u (N ++ ((V.map (keyD pt.desc)).map (fun t => s ++ t)).take k) ∧ Below wa.heap.size wa wr) (fun _ j _ => V.length - (intOf j).toNat)
          case atStart => exact ⟨0, Nat.zero_le _, rfl, by rw [List.take_zero, List.append_nil]; exact HO.out, HBM.out⟩
          case round =>
            obtain ⟨k, hk, rfl, hown, hbel⟩ := hrel
            have hzk := hbel.size
            have htl : (N ++ ((V.map (keyD pt.desc)).map (fun t => s ++ t)).take k).length = N.length + k := by rw [List.length_append, List.length_take, List.length_map, List.length_map]; omega
            by_cases hlk : k < V.length
            · have hk2 : (k : Int) < (V.length : Int) := by omega
              obtain ⟨t0, t1, t2⟩ := HRV.out.cells k hlk
              obtain ⟨v, hv⟩ : ∃ v, v = V[k] := ⟨_, rfl⟩
              have hvo : okB v = true := by rw [hv]; exact HVO.out _ (List.getElem_mem _)
              have HTV : Hid (((V.map (keyD pt.desc)).map (fun t => s ++ t)).take (k + 1) = ((V.map (keyD pt.desc)).map (fun t => s ++ t)).take k ++ [s ++ keyD pt.desc v]) := by
                show ((V.map (keyD pt.desc)).map (fun t => s ++ t)).take (k + 1) = ((V.map (keyD pt.desc)).map (fun t => s ++ t)).take k ++ [s ++ keyD pt.desc v]
                rw [List.take_succ_eq_append_getElem (by simpa using hlk)]
                simp only [List.getElem_map, hv]
              rw [← hv] at t0 t1 t2
              have HK : Hid (∀ W : World, Calls Tryz.prog 71 #[.agg #[.int .i64 v.k, .int .i64 v.n, .string v.t], .bool pt.desc] W fun e w' => e = .returned (.string (keyD pt.desc v)) ∧ Below W.heap.size W w') := fun W => l04Key_any v pt.desc W hvo
              have hkz := keyD_size pt.desc v hvo
              obtain ⟨t, ht⟩ : ∃ t, t = keyD pt.desc v := ⟨_, rfl⟩
              rw [← ht] at HTV HK hkz
              have hcon : ¬ 9223372036854775807 < s.size + t.size := by omega
              have O3 : wr.ownsRow wa.heap.size 9 1 u8 (N.length + k) (strs (N ++ ((V.map (keyD pt.desc)).map (fun t => s ++ t)).take k)) := by have h := ownS_strs hown; rw [htl] at h; exact h
              have HO3 : Hid (World.ownsRow _ _ _ _ _ _ _) := O3
              clear ht hv hown hvo O3
              go_wp2_with fail
              go_region_held3 (fun w0 => w0.cell? ⟨w.heap.size, 1, none⟩ = some (.slice (some ⟨gp, 0, none⟩) ps.length cap) ∧ w0.cell? ⟨gp, q * 2 + 1, none⟩ = some (.bool pt.desc) ∧ w0.cell? ⟨gM, m, none⟩ = some (.string s) ∧ w0.cell? ⟨gV, k * 3, none⟩ = some (.int .i64 v.k) ∧ w0.cell? ⟨gV, k * 3 + 1, none⟩ = some (.int .i64 v.n) ∧ w0.cell? ⟨gV, k * 3 + 2, none⟩ = some (.string v.t)) ((refine keepB k0 kp kM kV A1 X1 y0 t0 t1 t2 ?_; (repeat (first | (with_reducible exact Below.refl _ _) | (with_reducible assumption) | (with_reducible apply below_drewN) | (with_reducible apply Below.drew) | ((with_reducible refine Below.setCell ?_ ?_ _); rotate_left; focus (first | (simp; done) | (simp; omega) | omega)) | ((with_reducible refine Below.alloc ?_ ?_ _); rotate_left; focus (first | (simp; done) | (simp; omega) | omega)))))) (first
                | (go_at_call 71; refine (HK.out _).mono ?_; rintro e w2 ⟨rfl, hb⟩; have hB2 : Below wr.heap.size wr w2 := (show Below wr.heap.size wr _ by (repeat (first | (with_reducible exact Below.refl _ _) | (with_reducible assumption) | (with_reducible apply below_drewN) | (with_reducible apply Below.drew) | ((with_reducible refine Below.setCell ?_ ?_ _); rotate_left; focus (first | (simp; done) | (simp; omega) | omega)) | ((with_reducible refine Below.alloc ?_ ?_ _); rotate_left; focus (first | (simp; done) | (simp; omega) | omega))))).trans (hb.mono (by first | (simp; done) | (simp; omega) | omega)); have hs2 := hB2.size; have hA2 : Below wa.heap.size wa w2 := hbel.trans (hB2.mono hzk); clear hb)
                | (refine step_text rfl (.tmp 40) (.tmp 57) rfl wa.heap.size (N.length + k) u8 (strs (N ++ ((V.map (keyD pt.desc)).map (fun t => s ++ t)).take k)) (s ++ t) w2.heap.size (by simp [Act.eval]) (by simp [Act.eval]) (by simp [go_sem]) ((owns_below HO3.out hB2).alloc _) (by omega) (by simp; omega) ?_; intro v' w3 hown4 hgrow hnv hat; have hB3 : Below wa.heap.size wa w3 := Below.grown (hA2.alloc (by omega) _) hgrow (by simp; omega) (owns_block HO3.out); have HO4 : Hid (World.ownsRow _ _ _ _ _ _ _) := hown4; clear hown4 hgrow hnv hat))
              have HO6 : Hid (OwnS w3 wa.heap.size v' (N ++ ((V.map (keyD pt.desc)).map (fun t => s ++ t)).take (k + 1))) := by
                show w3.ownsRow _ _ _ _ _ _
                rw [HTV.out, ← List.append_assoc, strV_app, List.length_append, htl]; exact HO4.out
              clear HO4 hB2 hA2
              go_wp2_with fail
              go_roundw
              case rel => exact ⟨k + 1, by omega, by go_num, HO6.out, hB3⟩
              case measure => simp [intOf]; omega
            · have hk2 : ¬ (k : Int) < (V.length : Int) := by omega
              have HO7 : Hid (OwnS wr wa.heap.size u8 (eachW (M.take (m + 1)) (V.map (keyD pt.desc)))) := by
                have h := hown
                rw [List.take_of_length_le (by simp; omega), ← HTM.out] at h
                exact h
              clear hown
              go_wp2_with fail
              go_roundw
              case rel => exact ⟨m + 1, by omega, by go_num, HO7.out, hbel⟩
              case measure => simp [intOf]; omega
        · have hm2 : ¬ (m : Int) < (M.length : Int) := by omega
          have HO7 : Hid (OwnS wr (w.heap.size + 2) u8 (docK (ps.take (q + 1)) doc)) := by
            have h := hown
            rw [List.take_of_length_le (by omega)] at h
            rw [HTK.out, HKP.out]
            exact owns_mono h hza
          have hB7 : Below (w.heap.size + 2) W0 wr := HBA.out.trans (hbel.mono hza)
          clear hown
          go_wp2_with fail
          go_roundw
          case rel => exact ⟨q + 1, by omega, by go_num, HO7.out, hB7⟩
          case measure => simp [intOf]; omega
    · have hq2 : ¬ (q : Int) < (ps.length : Int) := by omega
      rw [List.take_of_length_le (by omega)] at hown
      have HO7 : Hid (OwnS _ _ _ _) := owns_mono (base' := w.heap.size) hown (by omega)
      have hbw : Below w.heap.size w wr := hb0.trans (hbel.mono (by omega))
      clear hown
      go_wp2_with fail
      go_ret
      exact ⟨⟨_, rfl, HO7.out⟩, hbw⟩

set_option maxRecDepth 4000 in
set_option maxHeartbeats 2000000 in
theorem specDK_any (n : ByteArray) (p : Option Addr) (cap : Nat) (ps : List Prt) (doc : Val) (w : World) (hr : RowD w p ps) (hn : n.size ≤ 1048576) (hl : ps.length ≤ 1048576) (hcap : ps.length ≤ cap) (hs : ∀ v ∈ ps, szPt v) (hd : doc.t.size ≤ 1048576) :
    Calls Tryz.prog 15 #[.agg #[.string n, .slice p ps.length cap], .agg #[.int .i64 doc.k, .int .i64 doc.n, .string doc.t]] w fun e w' => DkR n ps doc w e w' := by
  have hb0 : Below w.heap.size w ((w.alloc (.cells #[.string n, .slice p ps.length cap] 31)).alloc (.cells #[.int .i64 doc.k, .int .i64 doc.n, .string doc.t] 38)) := ((Below.refl _ _).alloc (Nat.le_refl _) _).alloc (by simp) _
  have n0 : ((w.alloc (.cells #[.string n, .slice p ps.length cap] 31)).alloc (.cells #[.int .i64 doc.k, .int .i64 doc.n, .string doc.t] 38)).cell? ⟨w.heap.size, 0, none⟩ = some (.string n) := by simp [go_sem]
  have n1 : ((w.alloc (.cells #[.string n, .slice p ps.length cap] 31)).alloc (.cells #[.int .i64 doc.k, .int .i64 doc.n, .string doc.t] 38)).cell? ⟨w.heap.size, 1, none⟩ = some (.slice p ps.length cap) := by simp [go_sem]
  have d0 : ((w.alloc (.cells #[.string n, .slice p ps.length cap] 31)).alloc (.cells #[.int .i64 doc.k, .int .i64 doc.n, .string doc.t] 38)).cell? ⟨w.heap.size + 1, 0, none⟩ = some (.int .i64 doc.k) := by simp [go_sem]
  have d1 : ((w.alloc (.cells #[.string n, .slice p ps.length cap] 31)).alloc (.cells #[.int .i64 doc.k, .int .i64 doc.n, .string doc.t] 38)).cell? ⟨w.heap.size + 1, 1, none⟩ = some (.int .i64 doc.n) := by simp [go_sem]
  have d2 : ((w.alloc (.cells #[.string n, .slice p ps.length cap] 31)).alloc (.cells #[.int .i64 doc.k, .int .i64 doc.n, .string doc.t] 38)).cell? ⟨w.heap.size + 1, 2, none⟩ = some (.string doc.t) := by simp [go_sem]
  have hs0 : ((w.alloc (.cells #[.string n, .slice p ps.length cap] 31)).alloc (.cells #[.int .i64 doc.k, .int .i64 doc.n, .string doc.t] 38)).heap.size = w.heap.size + 2 := by simp
  have HR : Hid (RowD _ _ _) := hr.next hb0
  have HN : Hid (∀ W : World, RowD W p ps → Calls Tryz.prog 39 #[.agg #[.string n, .slice p ps.length cap]] W fun e w' => e = .returned (.bool (defB n ps)) ∧ Below W.heap.size W w') := fun W hW => specDef_any n p cap ps W hW hn hl hs
  have HD : Hid (∀ W : World, Calls Tryz.prog 33 #[.agg #[.int .i64 doc.k, .int .i64 doc.n, .string doc.t]] W fun e w' => e = .returned (.bool (docB doc)) ∧ Below W.heap.size W w') := fun W => l03Doc_any doc W hd
  have HK : Hid (defB n ps = true → docB doc = true → ∀ W : World, RowD W p ps → Calls Tryz.prog 40 #[.agg #[.string n, .slice p ps.length cap], .agg #[.int .i64 doc.k, .int .i64 doc.n, .string doc.t]] W fun e w' => (∃ v, e = .returned v ∧ OwnS w' W.heap.size v (docK ps doc)) ∧ Below W.heap.size W w') := fun h1 h2 W hW => l06Keys_any n p cap ps doc W hW (docB_ok doc h2) (def_parts n ps h1).2.1 (def_parts n ps h1).2.2
  have HKP : Hid (defB n ps = true → docB doc = true → dkL n ps doc = docK ps doc ∧ dkC n ps doc = 0) := fun h1 h2 => dk_ok n ps doc h1 h2
  have HKN : Hid (defB n ps = false ∨ docB doc = false → dkL n ps doc = [] ∧ dkC n ps doc = 1) := fun h => dk_bad n ps doc h
  obtain ⟨A, hA⟩ : ∃ A, A = defB n ps := ⟨_, rfl⟩
  obtain ⟨B, hB⟩ : ∃ B, B = docB doc := ⟨_, rfl⟩
  rw [← hA, ← hB] at HK HKP HKN
  rw [← hA] at HN
  rw [← hB] at HD
  clear hr hs hA hB
  go_enter Tryz.func15, Tryz.ntmps15
  go_wp2_with fail
  generalize (w.alloc (.cells #[.string n, .slice p ps.length cap] 31)).alloc (.cells #[.int .i64 doc.k, .int .i64 doc.n, .string doc.t] 38) = W0 at hb0 n0 n1 d0 d1 d2 hs0 HR ⊢
  have m0 : w.heap.size < W0.heap.size := by omega
  have m1 : w.heap.size + 1 < W0.heap.size := by omega
  clear hs0
  refine (HN.out _ HR.out).mono ?_
  rintro e w1 ⟨rfl, hb⟩
  have HR1 : Hid (RowD _ _ _) := HR.out.next hb
  have hb1 := hb0.trans (hb.mono hb0.size)
  have a0 := (hb.cell (p := ⟨w.heap.size, 0, none⟩) m0).trans n0
  have a1 := (hb.cell (p := ⟨w.heap.size, 1, none⟩) m0).trans n1
  have c0 := (hb.cell (p := ⟨w.heap.size + 1, 0, none⟩) m1).trans d0
  have c1 := (hb.cell (p := ⟨w.heap.size + 1, 1, none⟩) m1).trans d1
  have c2 := (hb.cell (p := ⟨w.heap.size + 1, 2, none⟩) m1).trans d2
  have k0 := Nat.lt_of_lt_of_le m0 hb.size
  have k1 := Nat.lt_of_lt_of_le m1 hb.size
  clear hb n0 n1 d0 d1 d2 HR HN m0 m1
  cases A
  · obtain ⟨e1, e2⟩ := HKN.out (.inl (by first | trivial | rfl))
    have HE1 : Hid (_ = _) := e1
    have HE2 : Hid (_ = _) := e2
    clear e1 e2
    go_wp2_with fail
    go_ret2
    exact ⟨⟨_, by rw [HE2.out]; rfl, by rw [HE1.out]; exact World.ownsRow_made (base := w.heap.size) (size := 1) (e := 9) _ #[] 0 hb1.size (by unfold maxLen; omega) rfl⟩, hb1.alloc hb1.size _⟩
  · go_wp2_with fail
    refine (HD.out _).mono ?_
    rintro e w2 ⟨rfl, hb⟩
    have HR2 : Hid (RowD _ _ _) := HR1.out.next hb
    have hb2 := hb1.trans (hb.mono hb1.size)
    have a0' := (hb.cell (p := ⟨w.heap.size, 0, none⟩) k0).trans a0
    have a1' := (hb.cell (p := ⟨w.heap.size, 1, none⟩) k0).trans a1
    have c0' := (hb.cell (p := ⟨w.heap.size + 1, 0, none⟩) k1).trans c0
    have c1' := (hb.cell (p := ⟨w.heap.size + 1, 1, none⟩) k1).trans c1
    have c2' := (hb.cell (p := ⟨w.heap.size + 1, 2, none⟩) k1).trans c2
    have k0' := Nat.lt_of_lt_of_le k0 hb.size
    have k1' := Nat.lt_of_lt_of_le k1 hb.size
    clear hb a0 a1 c0 c1 c2 HD HR1
    cases B
    · obtain ⟨e1, e2⟩ := HKN.out (.inr (by first | trivial | rfl))
      have HE1 : Hid (_ = _) := e1
      have HE2 : Hid (_ = _) := e2
      clear e1 e2
      go_wp2_with fail
      go_ret2
      exact ⟨⟨_, by rw [HE2.out]; rfl, by rw [HE1.out]; exact World.ownsRow_made (base := w.heap.size) (size := 1) (e := 9) _ #[] 0 hb2.size (by unfold maxLen; omega) rfl⟩, hb2.alloc hb2.size _⟩
    · obtain ⟨e1, e2⟩ := HKP.out (by first | trivial | rfl) (by first | trivial | rfl)
      have HE1 : Hid (_ = _) := e1
      have HE2 : Hid (_ = _) := e2
      clear e1 e2
      go_wp2_with fail
      refine (HK.out (by first | trivial | rfl) (by first | trivial | rfl) _ HR2.out).mono ?_
      rintro e w3 ⟨⟨v3, rfl, O3⟩, hb⟩
      have hb3 := hb2.trans (hb.mono hb2.size)
      have HO3 : Hid (OwnS _ _ _ _) := owns_mono O3 hb2.size
      clear hb O3
      go_wp2_with fail
      go_ret2
      exact ⟨⟨_, by rw [HE2.out]; rfl, by rw [HE1.out]; exact HO3.out⟩, hb3⟩

end Go.Proofs.YtdchhjnmhnehiaaGreatDoor
