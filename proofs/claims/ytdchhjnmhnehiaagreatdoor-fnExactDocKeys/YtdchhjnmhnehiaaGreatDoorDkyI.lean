/- The program's keys of a document: each value once, the keys of a part, each with each (whole). -/
import Derived.Test.YtdchhjnmhnehiaaGreatDoorDkyM
import Derived.Test.YtdchhjnmhnehiaaGreatDoorTrialA
import Derived.Test.YtdchhjnmhnehiaaGreatDoorComeJ
import Derived.Test.YtdchhjnmhnehiaaGreatDoorCutS
import Derived.Test.YtdchhjnmhnehiaaGreatDoorDocB
import Derived.Test.YtdchhjnmhnehiaaGreatDoorDefI
import Derived.Test.YtdchhjnmhnehiaaGreatDoorStrM
import Derived.Deep.RegionHeld3
namespace Go.Proofs.YtdchhjnmhnehiaaGreatDoor
open Go.RowKit Tr
set_option linter.unusedVariables false

theorem rowV_own {w : World} {base : Nat} {v : Value} {L : List Val} (h : w.ownsRow base 38 3 v L.length (flat L)) : ∃ p cap, v = .slice p L.length cap ∧ RowV w p L := by
  rcases h.2 with ⟨e, h0⟩ | ⟨g, cap, cur, e, _⟩
  · exact ⟨none, 0, by rw [e, h0], .inl (List.eq_nil_of_length_eq_zero h0)⟩
  · exact ⟨some ⟨g, 0, none⟩, cap, e, .inr ⟨g, rfl, ReadV.of_own (by rw [← e]; exact h)⟩⟩
theorem any_mem (l : List Val) (v : Val) : l.any (fun u => decide (u = v)) = decide (v ∈ l) := by
  rw [Bool.eq_iff_iff]; simp
/-- The one value of an answer's own, ready to be put behind others. -/
theorem val_new (w : World) (v : Val) : ∀ (j : Nat) (u : Value), (row v)[j]? = some u → (w.alloc (.cells #[.int .i64 v.k, .int .i64 v.n, .string v.t] 38)).cell? ((⟨w.heap.size, 0, none⟩ : Addr).add j) = some u := by
  intro j u hj
  match j, hj with
  | 0, hj => simp [row] at hj; subst hj; simp [Addr.add, go_sem]
  | 1, hj => simp [row] at hj; subst hj; simp [Addr.add, go_sem]
  | 2, hj => simp [row] at hj; subst hj; simp [Addr.add, go_sem]
  | j + 3, hj => simp [row] at hj
theorem val_one (v : Val) : ∀ u ∈ row v, u.oneCell' = true := by intro u hu; simp [row] at hu; rcases hu with rfl | rfl | rfl <;> rfl

set_option maxRecDepth 4000 in
set_option maxHeartbeats 2000000 in
theorem eachOnce_any (p : Option Addr) (cap : Nat) (l : List Val) (w : World) (hr : RowV w p l) (hl : l.length ≤ 1000) :
    Calls Tryz.prog 95 #[.slice p l.length cap] w fun e w' => (∃ p' cap', e = .returned (.slice p' (onceV [] l).length cap') ∧ RowV w' p' (onceV [] l)) ∧ Below w.heap.size w w' := by
  obtain ⟨i0, hi0, hz0, hz1, hz2⟩ := info_parts infoV
  have HR : Hid (RowV _ _ _) := hr
  clear hr
  go_enter Tryz.func95, Tryz.ntmps95
  go_wp2_with fail
  go_loopw [3, 8] (fun u i wr => ∃ q : Nat, q ≤ l.length ∧ i = .int .i64 q ∧ wr.ownsRow w.heap.size 38 3 u (onceV [] (l.take q)).length (flat (onceV [] (l.take q))) ∧ Below w.heap.size w wr) (fun _ i _ => l.length - (intOf i).toNat)
  case atStart => exact ⟨0, Nat.zero_le _, rfl, by rw [List.take_zero]; exact World.ownsRow_nil _ _ _ _, Below.refl _ _⟩
  case round =>
    obtain ⟨q, hq, rfl, hown, hbel⟩ := hrel
    have hz := hbel.size
    have hol := onceV_len (l.take q) []
    rw [List.length_take, List.length_nil] at hol
    by_cases hlt : q < l.length
    · rcases HR.out.next hbel with h0 | ⟨g, rfl, R⟩
      · subst h0; simp at hlt
      obtain ⟨x0, x1, x2⟩ := R.cells q hlt
      have hgl := R.lt
      have hnx := onceV_take l q hlt
      obtain ⟨v, hv⟩ : ∃ v, v = l[q] := ⟨_, rfl⟩
      obtain ⟨L, hL⟩ : ∃ L, L = onceV [] (l.take q) := ⟨_, rfl⟩
      rw [← hv] at x0 x1 x2
      rw [← hv, ← hL] at hnx
      rw [← hL] at hown hol
      obtain ⟨pu, cu, rfl, RU⟩ := rowV_own hown
      have hal : Below wr.heap.size wr (wr.alloc (.cells #[.int .i64 v.k, .int .i64 v.n, .string v.t] 38)) := (Below.refl _ _).alloc (Nat.le_refl _) _
      have HC : Hid (Calls _ _ _ _ _) := containsVal_any pu cu L v (wr.alloc (.cells #[.int .i64 v.k, .int .i64 v.n, .string v.t] 38)) (RU.next hal) (by omega)
      rw [any_mem] at HC
      have X := Boxed.start wr (.int .i64 v.k) (.int .i64 v.n) (.string v.t) 38
      have HO : Hid (World.ownsRow _ _ _ _ _ _ _) := owns_below hown hal
      have HNX : Hid (_ = _) := hnx
      have hq2 : (q : Int) < (l.length : Int) := by omega
      clear R hv hL hown RU hnx
      obtain ⟨K, hK⟩ : ∃ K, K = decide (v ∈ L) := ⟨_, rfl⟩
      rw [← hK] at HC
      have HK : Hid (_ = _) := hK
      clear hK
      go_wp2_with fail
      generalize wr.alloc (.cells #[.int .i64 v.k, .int .i64 v.n, .string v.t] 38) = W1 at X HC HO hal ⊢
      refine HC.out.mono ?_
      rintro e w1 ⟨rfl, hb⟩
      have X1 := X.step hb
      have O1 := owns_below HO.out hb
      have a0 := X1.c0
      have a1 := X1.c1
      have a2 := X1.c2
      have hl1 := X1.lt
      have hb1 := hbel.trans (X1.bel.mono hz)
      clear hb HC HO X x0 x1 x2 hal
      cases K
      · have hnx : onceV [] (l.take (q + 1)) = L ++ [v] := by rw [HNX.out, if_neg (by have := HK.out.symm; simpa using this)]
        have HN2 : Hid (_ = _) := hnx
        have hz1' := hb1.size
        clear hnx
        go_wp2_with (at_builtin; refine wpList_append_own _ rfl (.tmp 16) (.tmp 18) 107 rfl w.heap.size 38 i0 (.agg #[.int .i64 0, .int .i64 0, .string em]) 3 32 Tryz.underlying107 hi0 hz0 hz1 hz2 rfl (by decide) _ _ _ rfl (O1.alloc _) ⟨w1.heap.size, 0, none⟩ 1 1 (row v) rfl rfl (val_new _ _) (val_one _) (by unfold maxLen; omega) (by omega) (by simp; omega) ?_)
        intro v' w6 hown6 hgrow hnv
        have B6 : Below w.heap.size w w6 := Below.grown (hb1.alloc (by omega) _) hgrow (by simp; omega) (fun j hj => by have := (O1.lt j hj).1; omega)
        have HO6 : Hid (World.ownsRow _ _ _ _ _ _ _) := hown6
        clear hown6 hgrow hnv O1 a0 a1 a2
        go_wp2_with fail
        go_roundw
        case rel => exact ⟨q + 1, by omega, by go_num, by rw [HN2.out, flat_snoc, List.length_append]; exact HO6.out, B6⟩
        case measure => simp [intOf]; omega
      · have hnx : onceV [] (l.take (q + 1)) = L := by rw [HNX.out, if_pos (by have := HK.out.symm; simpa using this)]
        have HN2 : Hid (_ = _) := hnx
        have HO1 : Hid (World.ownsRow _ _ _ _ _ _ _) := O1
        clear hnx O1 a0 a1 a2
        go_wp2_with fail
        go_roundw
        case rel => exact ⟨q + 1, by omega, by go_num, by rw [HN2.out]; exact HO1.out, hb1⟩
        case measure => simp [intOf]; omega
    · have hq2 : ¬ (q : Int) < (l.length : Int) := by omega
      rw [List.take_of_length_le (by omega)] at hown
      obtain ⟨pu, cu, rfl, RU⟩ := rowV_own hown
      have HRU : Hid (RowV _ _ _) := RU
      clear RU hown
      go_wp2_with fail
      go_ret
      exact ⟨⟨pu, ⟨cu, rfl⟩, HRU.out⟩, hbel⟩

theorem keepPD {W w0 : World} {b : Nat} {a0 a1 c0 c1 c2 : Value} (m : b < W.heap.size) (m2 : b + 1 < W.heap.size) (x0 : W.cell? ⟨b, 0, none⟩ = some a0) (x1 : W.cell? ⟨b, 1, none⟩ = some a1) (y0 : W.cell? ⟨b + 1, 0, none⟩ = some c0) (y1 : W.cell? ⟨b + 1, 1, none⟩ = some c1) (y2 : W.cell? ⟨b + 1, 2, none⟩ = some c2) (hb : Below W.heap.size W w0) :
    w0.cell? ⟨b, 0, none⟩ = some a0 ∧ w0.cell? ⟨b, 1, none⟩ = some a1 ∧ w0.cell? ⟨b + 1, 0, none⟩ = some c0 ∧ w0.cell? ⟨b + 1, 1, none⟩ = some c1 ∧ w0.cell? ⟨b + 1, 2, none⟩ = some c2 :=
  ⟨(hb.cell m).trans x0, (hb.cell m).trans x1, (hb.cell m2).trans y0, (hb.cell m2).trans y1, (hb.cell m2).trans y2⟩
theorem ownS_one (w : World) (s : ByteArray) {base : Nat} (hb : base ≤ w.heap.size) : OwnS (w.alloc (.cells #[.string s] 9)) base (.slice (some ⟨w.heap.size, 0, none⟩) 1 1) [s] :=
  ⟨rfl, .inr ⟨w.heap.size, 1, _, rfl, hb, heap_alloc_new w _, Nat.le_refl _, by unfold maxLen; omega, rfl, rfl⟩⟩
theorem ownS_strs {w : World} {base : Nat} {v : Value} {l : List ByteArray} (h : OwnS w base v l) : w.ownsRow base 9 1 v l.length (strV l) := h
theorem pieces_le (p : ByteArray) (h : pathB p = true) : p.size ≤ 50 := by
  rcases Nat.lt_or_ge 50 p.size with h' | h'
  · rw [pathB_long p h'] at h; cases h
  · exact h'

set_option maxRecDepth 8000 in
set_option maxHeartbeats 4000000 in
theorem partKeys_any (pt : Prt) (doc : Val) (w : World) (hp : pt.path.size ≤ 50) (hd : okB doc = true) :
    Calls Tryz.prog 68 #[.agg #[.string pt.path, .bool pt.desc], .agg #[.int .i64 doc.k, .int .i64 doc.n, .string doc.t]] w fun e w' => (∃ v, e = .returned v ∧ OwnS w' w.heap.size v (keysP pt doc)) ∧ Below w.heap.size w w' := by
  obtain ⟨i0, hi0, hz0, hz1, hz2⟩ := info_parts infoStr
  have hds := okB_size doc hd
  have hgl := getP_len (pieces pt.path) doc
  have hpl := pieces_len_le pt.path
  have HOK : Hid (∀ v ∈ getP (pieces pt.path) doc, okB v = true) := getP_ok _ _ hd
  have HD : Hid (okB doc = true) := hd
  have HNIL : Hid (getP (pieces pt.path) doc = [] → keysP pt doc = [keyD pt.desc nullV]) := fun e => by unfold keysP valsP; rw [if_pos e]; rfl
  have HSOM : Hid (¬ getP (pieces pt.path) doc = [] → keysP pt doc = (onceV [] (getP (pieces pt.path) doc)).map (keyD pt.desc)) := fun e => by unfold keysP valsP; rw [if_neg e]
  have hb0 : Below w.heap.size w ((w.alloc (.cells #[.string pt.path, .bool pt.desc] 28)).alloc (.cells #[.int .i64 doc.k, .int .i64 doc.n, .string doc.t] 38)) := ((Below.refl _ _).alloc (Nat.le_refl _) _).alloc (by simp) _
  have p0 : ((w.alloc (.cells #[.string pt.path, .bool pt.desc] 28)).alloc (.cells #[.int .i64 doc.k, .int .i64 doc.n, .string doc.t] 38)).cell? ⟨w.heap.size, 0, none⟩ = some (.string pt.path) := by simp [go_sem]
  have p1 : ((w.alloc (.cells #[.string pt.path, .bool pt.desc] 28)).alloc (.cells #[.int .i64 doc.k, .int .i64 doc.n, .string doc.t] 38)).cell? ⟨w.heap.size, 1, none⟩ = some (.bool pt.desc) := by simp [go_sem]
  have d0 : ((w.alloc (.cells #[.string pt.path, .bool pt.desc] 28)).alloc (.cells #[.int .i64 doc.k, .int .i64 doc.n, .string doc.t] 38)).cell? ⟨w.heap.size + 1, 0, none⟩ = some (.int .i64 doc.k) := by simp [go_sem]
  have d1 : ((w.alloc (.cells #[.string pt.path, .bool pt.desc] 28)).alloc (.cells #[.int .i64 doc.k, .int .i64 doc.n, .string doc.t] 38)).cell? ⟨w.heap.size + 1, 1, none⟩ = some (.int .i64 doc.n) := by simp [go_sem]
  have d2 : ((w.alloc (.cells #[.string pt.path, .bool pt.desc] 28)).alloc (.cells #[.int .i64 doc.k, .int .i64 doc.n, .string doc.t] 38)).cell? ⟨w.heap.size + 1, 2, none⟩ = some (.string doc.t) := by simp [go_sem]
  have hs0 : ((w.alloc (.cells #[.string pt.path, .bool pt.desc] 28)).alloc (.cells #[.int .i64 doc.k, .int .i64 doc.n, .string doc.t] 38)).heap.size = w.heap.size + 2 := by simp
  clear hd
  go_enter Tryz.func68, Tryz.ntmps68
  go_wp2_with fail
  generalize (w.alloc (.cells #[.string pt.path, .bool pt.desc] 28)).alloc (.cells #[.int .i64 doc.k, .int .i64 doc.n, .string doc.t] 38) = W0 at hb0 p0 p1 d0 d1 d2 hs0 ⊢
  have m0 : w.heap.size < W0.heap.size := by omega
  have m1 : w.heap.size + 1 < W0.heap.size := by omega
  clear hs0
  obtain ⟨G, hG⟩ : ∃ G, G = getP (pieces pt.path) doc := ⟨_, rfl⟩
  have HCO : Hid (∀ (g off cap : Nat) (W : World), (pieces pt.path).length ≤ cap → ReadS W g off (pieces pt.path) → Calls Tryz.prog 96 #[.agg #[.int .i64 doc.k, .int .i64 doc.n, .string doc.t], .slice (some ⟨g, off, none⟩) (pieces pt.path).length cap] W fun e w' => RowO G w' e ∧ Below W.heap.size W w') := fun g off cap W h1 h2 => by rw [hG]; exact come_at (pieces pt.path) (by omega) 5 doc g off cap W HD.out hds h1 h2
  rw [← hG] at hgl HOK HNIL HSOM
  clear hG
  go_region_held3 (fun w0 => w0.cell? ⟨w.heap.size, 0, none⟩ = some (.string pt.path) ∧ w0.cell? ⟨w.heap.size, 1, none⟩ = some (.bool pt.desc) ∧ w0.cell? ⟨w.heap.size + 1, 0, none⟩ = some (.int .i64 doc.k) ∧ w0.cell? ⟨w.heap.size + 1, 1, none⟩ = some (.int .i64 doc.n) ∧ w0.cell? ⟨w.heap.size + 1, 2, none⟩ = some (.string doc.t)) ((refine keepPD m0 m1 p0 p1 d0 d1 d2 ?_; (repeat (first | (with_reducible exact Below.refl _ _) | (with_reducible assumption) | (with_reducible apply below_drewN) | (with_reducible apply Below.drew) | ((with_reducible refine Below.setCell ?_ ?_ _); rotate_left; focus (first | (simp; done) | (simp; omega) | omega)) | ((with_reducible refine Below.alloc ?_ ?_ _); rotate_left; focus (first | (simp; done) | (simp; omega) | omega)))))) (first
    | (go_at_call 80; refine (namesOfC_any pt.path _ (by omega)).mono ?_; rintro e w1 ⟨⟨gn, cn, rfl, hcn, RN⟩, hb⟩; have hB1 : Below W0.heap.size W0 w1 := (show Below W0.heap.size W0 _ by (repeat (first | (with_reducible exact Below.refl _ _) | (with_reducible assumption) | (with_reducible apply below_drewN) | (with_reducible apply Below.drew) | ((with_reducible refine Below.setCell ?_ ?_ _); rotate_left; focus (first | (simp; done) | (simp; omega) | omega)) | ((with_reducible refine Below.alloc ?_ ?_ _); rotate_left; focus (first | (simp; done) | (simp; omega) | omega))))).trans (hb.mono (by first | (simp; done) | (simp; omega) | omega)); have hs1 := hB1.size; have HRN : Hid (ReadS _ _ _ _) := RN; clear hb RN)
    | (go_at_call 96; refine (HCO.out gn 0 cn _ hcn (HRN.out.next (by (repeat (first | (with_reducible exact Below.refl _ _) | (with_reducible assumption) | (with_reducible apply below_drewN) | (with_reducible apply Below.drew) | ((with_reducible refine Below.setCell ?_ ?_ _); rotate_left; focus (first | (simp; done) | (simp; omega) | omega)) | ((with_reducible refine Below.alloc ?_ ?_ _); rotate_left; focus (first | (simp; done) | (simp; omega) | omega))))))).mono ?_; rintro e w2 ⟨hro, hb⟩; obtain ⟨pc, cc, rfl, RC⟩ := hro.row; have hB2 : Below W0.heap.size W0 w2 := (show Below W0.heap.size W0 _ by (repeat (first | (with_reducible exact Below.refl _ _) | (with_reducible assumption) | (with_reducible apply below_drewN) | (with_reducible apply Below.drew) | ((with_reducible refine Below.setCell ?_ ?_ _); rotate_left; focus (first | (simp; done) | (simp; omega) | omega)) | ((with_reducible refine Below.alloc ?_ ?_ _); rotate_left; focus (first | (simp; done) | (simp; omega) | omega))))).trans (hb.mono (by first | (simp; done) | (simp; omega) | omega)); have hs2 := hB2.size; have HRC : Hid (RowV _ _ _) := RC; clear hb RC hro)
    | (go_at_call 95; refine (eachOnce_any pc cc G _ (HRC.out.next (by (repeat (first | (with_reducible exact Below.refl _ _) | (with_reducible assumption) | (with_reducible apply below_drewN) | (with_reducible apply Below.drew) | ((with_reducible refine Below.setCell ?_ ?_ _); rotate_left; focus (first | (simp; done) | (simp; omega) | omega)) | ((with_reducible refine Below.alloc ?_ ?_ _); rotate_left; focus (first | (simp; done) | (simp; omega) | omega)))))) (by omega)).mono ?_; rintro e w3 ⟨⟨po, co, rfl, RO⟩, hb⟩; have hB3 : Below W0.heap.size W0 w3 := (show Below W0.heap.size W0 _ by (repeat (first | (with_reducible exact Below.refl _ _) | (with_reducible assumption) | (with_reducible apply below_drewN) | (with_reducible apply Below.drew) | ((with_reducible refine Below.setCell ?_ ?_ _); rotate_left; focus (first | (simp; done) | (simp; omega) | omega)) | ((with_reducible refine Below.alloc ?_ ?_ _); rotate_left; focus (first | (simp; done) | (simp; omega) | omega))))).trans (hb.mono (by first | (simp; done) | (simp; omega) | omega)); have HRO : Hid (RowV _ _ _) := RO; clear hb RO))
  obtain ⟨L, hL⟩ : ∃ L, L = onceV [] G := ⟨_, rfl⟩
  have hll : L.length ≤ 301 := by rw [hL]; have := onceV_len G []; simp at this; omega
  have HLO : Hid (∀ v ∈ L, okB v = true) := fun v hv => by
    rw [hL] at hv
    rcases onceV_mem _ _ _ hv with h | h
    · simp at h
    · exact HOK.out v h
  have HLN : Hid (L = [] → keysP pt doc = [keyD pt.desc nullV]) := fun e => HNIL.out ((onceV_nil G).1 (by rw [← hL]; exact e))
  have HLS : Hid (¬ L = [] → keysP pt doc = L.map (keyD pt.desc)) := fun e => by rw [hL]; exact HSOM.out (fun h => e (by rw [hL]; exact (onceV_nil G).2 h))
  rw [← hL] at HRO ⊢
  have q0 := (hB3.cell m0).trans p0
  have q1 := (hB3.cell m0).trans p1
  have hbw := hb0.trans (hB3.mono hb0.size)
  have hl3 : w.heap.size < w3.heap.size := Nat.lt_of_lt_of_le m0 hB3.size
  clear hL hB1 hB2 hB3 HRN HRC HCO HNIL HSOM HOK p0 p1 d0 d1 d2 m0 m1 hb0 q0
  go_wp2_with fail
  go_loopw [5, 15] (fun u i wr => ∃ q : Nat, q ≤ L.length ∧ i = .int .i64 q ∧ OwnS wr w3.heap.size u ((L.map (keyD pt.desc)).take q) ∧ Below w3.heap.size w3 wr) (fun _ i _ => L.length - (intOf i).toNat)
  case atStart => exact ⟨0, Nat.zero_le _, rfl, by rw [List.take_zero]; exact World.ownsRow_nil _ _ _ _, Below.refl _ _⟩
  case round =>
    obtain ⟨q, hq, rfl, hown, hbel⟩ := hrel
    have hz := hbel.size
    have r1 := (hbel.cell (p := ⟨w.heap.size, 1, none⟩) hl3).trans q1
    have hlr : w.heap.size < wr.heap.size := by omega
    have htl : ((L.map (keyD pt.desc)).take q).length = q := by rw [List.length_take, List.length_map]; omega
    have hown' : wr.ownsRow w3.heap.size 9 1 u5 q (strV ((L.map (keyD pt.desc)).take q)) := by have h := ownS_strs hown; rw [htl] at h; exact h
    by_cases hlt : q < L.length
    · rcases HRO.out.next hbel with h0 | ⟨g, rfl, R⟩
      · subst h0; simp at hlt
      obtain ⟨x0, x1, x2⟩ := R.cells q hlt
      have hgr := R.lt
      obtain ⟨v, hv⟩ : ∃ v, v = L[q] := ⟨_, rfl⟩
      have hvo : okB v = true := by rw [hv]; exact HLO.out _ (List.getElem_mem _)
      have HTK : Hid ((L.map (keyD pt.desc)).take (q + 1) = (L.map (keyD pt.desc)).take q ++ [keyD pt.desc v]) := by
        show (L.map (keyD pt.desc)).take (q + 1) = (L.map (keyD pt.desc)).take q ++ [keyD pt.desc v]
        rw [List.take_succ_eq_append_getElem (by simpa using hlt)]
        simp only [List.getElem_map, hv]
      rw [← hv] at x0 x1 x2
      have hal : Below wr.heap.size wr (wr.alloc (.cells #[.int .i64 v.k, .int .i64 v.n, .string v.t] 38)) := (Below.refl _ _).alloc (Nat.le_refl _) _
      have r1' := (hal.cell (p := ⟨w.heap.size, 1, none⟩) hlr).trans r1
      have HK : Hid (∀ W : World, Calls Tryz.prog 97 #[.agg #[.int .i64 v.k, .int .i64 v.n, .string v.t], .bool pt.desc] W fun e w' => e = .returned (.string (keyD pt.desc v)) ∧ Below W.heap.size W w') := fun W => keyOf_any v pt.desc W hvo
      have hkz := keyD_size pt.desc v hvo
      have X := Boxed.start wr (.int .i64 v.k) (.int .i64 v.n) (.string v.t) 38
      have a0 := X.c0
      have a1 := X.c1
      have a2 := X.c2
      have HO : Hid (World.ownsRow _ _ _ _ _ _ _) := owns_below hown' hal
      have hq2 : (q : Int) < (L.length : Int) := by omega
      have HBX : Hid (Below w3.heap.size w3 _) := hbel.trans (X.bel.mono hz)
      clear R hv hown hown' hvo X
      go_wp2_with fail
      generalize wr.alloc (.cells #[.int .i64 v.k, .int .i64 v.n, .string v.t] 38) = W1 at HO HBX r1' a0 a1 a2 hal ⊢
      refine (HK.out _).mono ?_
      rintro e w4 ⟨rfl, hb⟩
      have O4 := owns_below HO.out hb
      have B4 := HBX.out.trans (hb.mono HBX.out.size)
      have hz4 := B4.size
      clear hb HO HK x0 x1 x2 a0 a1 a2 r1' hal
      go_wp2_with (at_builtin; refine wpList_append_own_at _ rfl (.tmp 19) (.tmp 24) 42 rfl w3.heap.size 9 i0 (.string ByteArray.empty) 1 16 Tryz.underlying42 hi0 hz0 hz1 hz2 rfl (by decide) _ _ _ rfl (O4.alloc _) ⟨w4.heap.size, 0, none⟩ 1 1 [.string (keyD pt.desc v)] rfl rfl (cell_one_new _ _ _) (by intro u hu; simp at hu; subst hu; rfl) (by unfold maxLen; omega) (by omega) (by simp; omega) ?_)
      intro v' w6 hown6 hgrow hnv hat
      have B6 : Below w3.heap.size w3 w6 := Below.grown (B4.alloc (by omega) _) hgrow (by simp; omega) (fun j hj => by have := (O4.lt j hj).1; omega)
      have HO6 : Hid (OwnS w6 w3.heap.size v' ((L.map (keyD pt.desc)).take (q + 1))) := by
        show w6.ownsRow _ _ _ _ _ _
        rw [HTK.out, strV_app, List.length_append, htl]; exact hown6
      clear hown6 hgrow hnv hat O4
      go_wp2_with fail
      go_roundw
      case rel => exact ⟨q + 1, by omega, by go_num, HO6.out, B6⟩
      case measure => simp [intOf]; omega
    · have hq2 : ¬ (q : Int) < (L.length : Int) := by omega
      obtain rfl : q = L.length := by omega
      have hown2 : OwnS wr w3.heap.size u5 (L.map (keyD pt.desc)) := by have h := hown; rw [List.take_of_length_le (by simp)] at h; exact h
      obtain ⟨pu, cu, rfl, IU⟩ := OwnS.in1 hown2
      have hbw2 : Below w.heap.size w wr := hbw.trans (hbel.mono (by omega))
      rw [List.length_map] at *
      have HOU : Hid (OwnS _ _ _ _) := hown2
      clear hown hown' hown2 IU htl
      by_cases hn : L = []
      · have hn0 : (L.length : Int) = 0 := by rw [hn]; rfl
        have HE : Hid (_ = _) := HLN.out hn
        have HK : Hid (∀ W : World, Calls Tryz.prog 97 #[.agg #[.int .i64 0, .int .i64 0, .string ByteArray.empty], .bool pt.desc] W fun e w' => e = .returned (.string (keyD pt.desc nullV)) ∧ Below W.heap.size W w') := fun W => keyOf_any nullV pt.desc W null_ok
        clear HLN HLS HOU hn
        rw [hn0]
        go_wp2_with fail
        refine (HK.out _).mono ?_
        rintro e w4 ⟨rfl, hb⟩
        have B4 := hbw2.trans (hb.mono hbw2.size)
        clear hb
        go_wp2_with fail
        go_ret
        refine ⟨⟨_, rfl, ?_⟩, B4.alloc B4.size _⟩
        rw [HE.out]
        exact ownS_one w4 (keyD pt.desc nullV) B4.size
      · have hn0 : ¬ (L.length : Int) = 0 := by intro e; apply hn; exact List.eq_nil_of_length_eq_zero (by omega)
        have HE : Hid (_ = _) := HLS.out hn
        clear HLN HLS hn
        go_wp2_with fail
        go_ret
        refine ⟨⟨_, rfl, ?_⟩, hbw2⟩
        rw [HE.out]
        exact owns_mono HOU.out (by omega)

set_option maxRecDepth 8000 in
set_option maxHeartbeats 4000000 in
theorem eachWith_any (p1 p2 : Option Addr) (c1 c2 : Nat) (a b : List ByteArray) (w : World) (h1 : InT1 w p1 a) (h2 : InT1 w p2 b) (ha : a.length ≤ 1000) (hb : b.length ≤ 1000) (hsa : ∀ s ∈ a, s.size ≤ 100000) (hsb : ∀ s ∈ b, s.size ≤ 100000) :
    Calls Tryz.prog 67 #[.slice p1 a.length c1, .slice p2 b.length c2] w fun e w' => (∃ v, e = .returned v ∧ OwnS w' w.heap.size v (eachW a b)) ∧ Below w.heap.size w w' := by
  obtain ⟨i0, hi0, hz0, hz1, hz2⟩ := info_parts infoStr
  have HA : Hid (InT1 _ _ _) := h1
  have HB : Hid (InT1 _ _ _) := h2
  have HSA : Hid (∀ s ∈ a, s.size ≤ 100000) := hsa
  have HSB : Hid (∀ s ∈ b, s.size ≤ 100000) := hsb
  clear h1 h2 hsa hsb
  go_enter Tryz.func67, Tryz.ntmps67
  go_wp2_with fail
  go_loopw [5, 12] (fun u i wr => ∃ q : Nat, q ≤ a.length ∧ i = .int .i64 q ∧ OwnS wr w.heap.size u (eachW (a.take q) b) ∧ Below w.heap.size w wr) (fun _ i _ => a.length - (intOf i).toNat)
  case atStart => exact ⟨0, Nat.zero_le _, rfl, by rw [List.take_zero]; exact World.ownsRow_nil _ _ _ _, Below.refl _ _⟩
  case round =>
    obtain ⟨q, hq, rfl, hown, hbel⟩ := hrel
    have hz := hbel.size
    by_cases hlt : q < a.length
    · have hq2 : (q : Int) < (a.length : Int) := by omega
      obtain ⟨ga, rfl, hga, x0⟩ : ∃ ga, p1 = some ⟨ga, 0, none⟩ ∧ ga < w.heap.size ∧ w.cell? ⟨ga, q, none⟩ = some (.string a[q]) := by
        rcases HA.out with h | ⟨g, e, hl, hc⟩
        · omega
        · exact ⟨g, e, hl, hc q hlt⟩
      have x1 := (hbel.cell (p := ⟨ga, q, none⟩) hga).trans x0
      have hga2 : ga < wr.heap.size := by omega
      have HTK : Hid (eachW (a.take (q + 1)) b = eachW (a.take q) b ++ b.map (fun t => a[q] ++ t)) := eachW_take a b q hlt
      have hsq := HSA.out a[q] (List.getElem_mem _)
      have hel : (eachW (a.take q) b).length ≤ 1000 * 1000 := by
        rw [eachW_len]; exact Nat.mul_le_mul (by rw [List.length_take]; omega) hb
      obtain ⟨s, hs⟩ : ∃ s, s = a[q] := ⟨_, rfl⟩
      rw [← hs] at x1 HTK hsq
      obtain ⟨M, hM⟩ : ∃ M, M = eachW (a.take q) b := ⟨_, rfl⟩
      rw [← hM] at hown HTK hel
      have HO : Hid (OwnS _ _ _ _) := hown
      have HBL : Hid (Below _ _ _) := hbel
      clear hs hM hown hbel x0
      obtain ⟨Wq, rfl⟩ : ∃ W, W = wr := ⟨_, rfl⟩
      go_wp2_with fail
      go_loopw [5, 18] (fun u j wr => ∃ m : Nat, m ≤ b.length ∧ j = .int .i64 m ∧ OwnS wr w.heap.size u (M ++ (b.map (fun t => s ++ t)).take m) ∧ Below w.heap.size w wr) (fun _ j _ => b.length - (intOf j).toNat)
      case atStart => exact ⟨0, Nat.zero_le _, rfl, by rw [List.take_zero, List.append_nil]; exact HO.out, HBL.out⟩
      case round =>
        obtain ⟨m, hm, rfl, hown, hbel⟩ := hrel
        have hzr := hbel.size
        have htl : (M ++ (b.map (fun t => s ++ t)).take m).length = M.length + m := by rw [List.length_append, List.length_take, List.length_map]; omega
        by_cases hlm : m < b.length
        · have hm2 : (m : Int) < (b.length : Int) := by omega
          obtain ⟨gb, rfl, hgb, y0⟩ : ∃ gb, p2 = some ⟨gb, 0, none⟩ ∧ gb < w.heap.size ∧ w.cell? ⟨gb, m, none⟩ = some (.string b[m]) := by
            rcases HB.out with h | ⟨g, e, hl, hc⟩
            · omega
            · exact ⟨g, e, hl, hc m hlm⟩
          have y1 := (hbel.cell (p := ⟨gb, m, none⟩) hgb).trans y0
          have hgb2 : gb < wr.heap.size := by omega
          have htq := HSB.out b[m] (List.getElem_mem _)
          have HTM : Hid ((b.map (fun t => s ++ t)).take (m + 1) = (b.map (fun t => s ++ t)).take m ++ [s ++ b[m]]) := by
            show (b.map (fun t => s ++ t)).take (m + 1) = (b.map (fun t => s ++ t)).take m ++ [s ++ b[m]]
            rw [List.take_succ_eq_append_getElem (by simpa using hlm)]
            simp only [List.getElem_map]
          obtain ⟨t, ht⟩ : ∃ t, t = b[m] := ⟨_, rfl⟩
          rw [← ht] at y1 HTM htq
          have hcon : ¬ 9223372036854775807 < s.size + t.size := by omega
          have O3 : wr.ownsRow w.heap.size 9 1 u5 (M.length + m) (strV (M ++ (b.map (fun t => s ++ t)).take m)) := by have h := ownS_strs hown; rw [htl] at h; exact h
          clear ht y0 hown
          go_wp2_with (at_builtin; refine wpList_append_own_at _ rfl (.tmp 22) (.tmp 26) 42 rfl w.heap.size 9 i0 (.string ByteArray.empty) 1 16 Tryz.underlying42 hi0 hz0 hz1 hz2 rfl (by decide) _ _ _ rfl (O3.alloc _) ⟨wr.heap.size, 0, none⟩ 1 1 [.string (s ++ t)] rfl rfl (cell_one_new _ _ _) (by intro u hu; simp at hu; subst hu; rfl) (by unfold maxLen; omega) (by omega) (by simp; omega) ?_)
          intro v' w6 hown6 hgrow hnv hat
          have B6 : Below w.heap.size w w6 := Below.grown (hbel.alloc (by omega) _) hgrow (by simp; omega) (fun j hj => by have := (O3.lt j hj).1; omega)
          have HO6 : Hid (OwnS w6 w.heap.size v' (M ++ (b.map (fun t => s ++ t)).take (m + 1))) := by
            show w6.ownsRow _ _ _ _ _ _
            rw [HTM.out, ← List.append_assoc, strV_app, List.length_append, htl]; exact hown6
          clear hown6 hgrow hnv hat O3
          go_wp2_with fail
          go_roundw
          case rel => exact ⟨m + 1, by omega, by go_num, HO6.out, B6⟩
          case measure => simp [intOf]; omega
        · have hm2 : ¬ (m : Int) < (b.length : Int) := by omega
          have HO7 : Hid (OwnS wr w.heap.size u5 (eachW (a.take (q + 1)) b)) := by
            have h := hown
            rw [List.take_of_length_le (by simp; omega), ← HTK.out] at h
            exact h
          clear hown
          go_wp2_with fail
          go_roundw
          case rel => exact ⟨q + 1, by omega, by go_num, HO7.out, hbel⟩
          case measure => simp [intOf]; omega
    · have hq2 : ¬ (q : Int) < (a.length : Int) := by omega
      rw [List.take_of_length_le (by omega)] at hown
      have HO7 : Hid (OwnS _ _ _ _) := hown
      clear hown
      go_wp2_with fail
      go_ret
      exact ⟨⟨_, rfl, HO7.out⟩, hbel⟩

end Go.Proofs.YtdchhjnmhnehiaaGreatDoor
