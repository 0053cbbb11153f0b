/- The program's keys of a document, whole. -/
import Derived.Test.YtdchhjnmhnehiaaGreatDoorDkyI
namespace Go.Proofs.YtdchhjnmhnehiaaGreatDoor
open Go.RowKit Tr
set_option linter.unusedVariables false

theorem def_parts (n : ByteArray) (ps : List Prt) (h : defB n ps = true) : 1 ≤ ps.length ∧ ps.length ≤ 2 ∧ ∀ v ∈ ps, v.path.size ≤ 50 := by
  unfold defB at h
  simp only [Bool.and_eq_true, decide_eq_true_eq] at h
  obtain ⟨_, ⟨h1, h2⟩, h3, _⟩ := h
  refine ⟨h1, h2, fun v hv => ?_⟩
  have h4 := List.all_eq_true.1 h3 v hv
  exact pieces_le v.path h4
def dkL (n : ByteArray) (ps : List Prt) (doc : Val) : List ByteArray := if (defB n ps && docB doc) = true then docK ps doc else []
def dkC (n : ByteArray) (ps : List Prt) (doc : Val) : Int := if (defB n ps && docB doc) = true then 0 else 1
theorem dk_ok (n : ByteArray) (ps : List Prt) (doc : Val) (h1 : defB n ps = true) (h2 : docB doc = true) : dkL n ps doc = docK ps doc ∧ dkC n ps doc = 0 := by
  unfold dkL dkC; rw [h1, h2]; exact ⟨rfl, rfl⟩
theorem dk_bad (n : ByteArray) (ps : List Prt) (doc : Val) (h : defB n ps = false ∨ docB doc = false) : dkL n ps doc = [] ∧ dkC n ps doc = 1 := by
  unfold dkL dkC
  have e : (defB n ps && docB doc) = false := by rcases h with h | h <;> rw [h] <;> simp
  rw [e]; exact ⟨rfl, rfl⟩
/-- What is answered of a document's keys. -/
structure DkR (n : ByteArray) (ps : List Prt) (doc : Val) (w : World) (e : Ending) (w' : World) : Prop where
  ret : ∃ v, e = .returned (.tuple #[v, .int .i64 (dkC n ps doc)]) ∧ OwnS w' w.heap.size v (dkL n ps doc)
  bel : Below w.heap.size w w'

set_option maxRecDepth 8000 in
set_option maxHeartbeats 4000000 in
theorem docKeysI_any (n : ByteArray) (p : Option Addr) (cap : Nat) (ps : List Prt) (doc : Val) (w : World) (hr : RowD w p ps) (hd : okB doc = true) (hl : ps.length ≤ 2) (hp : ∀ v ∈ ps, v.path.size ≤ 50) :
    Calls Tryz.prog 37 #[.agg #[.string n, .slice p ps.length cap], .agg #[.int .i64 doc.k, .int .i64 doc.n, .string doc.t]] w fun e w' => (∃ v, e = .returned v ∧ OwnS w' w.heap.size v (docK ps doc)) ∧ Below w.heap.size w w' := by
  have hb0 : Below w.heap.size w ((w.alloc (.cells #[.string n, .slice p ps.length cap] 31)).alloc (.cells #[.int .i64 doc.k, .int .i64 doc.n, .string doc.t] 38)) := ((Below.refl _ _).alloc (Nat.le_refl _) _).alloc (by simp) _
  have n0 : ((w.alloc (.cells #[.string n, .slice p ps.length cap] 31)).alloc (.cells #[.int .i64 doc.k, .int .i64 doc.n, .string doc.t] 38)).cell? ⟨w.heap.size, 0, none⟩ = some (.string n) := by simp [go_sem]
  have n1 : ((w.alloc (.cells #[.string n, .slice p ps.length cap] 31)).alloc (.cells #[.int .i64 doc.k, .int .i64 doc.n, .string doc.t] 38)).cell? ⟨w.heap.size, 1, none⟩ = some (.slice p ps.length cap) := by simp [go_sem]
  have d0 : ((w.alloc (.cells #[.string n, .slice p ps.length cap] 31)).alloc (.cells #[.int .i64 doc.k, .int .i64 doc.n, .string doc.t] 38)).cell? ⟨w.heap.size + 1, 0, none⟩ = some (.int .i64 doc.k) := by simp [go_sem]
  have d1 : ((w.alloc (.cells #[.string n, .slice p ps.length cap] 31)).alloc (.cells #[.int .i64 doc.k, .int .i64 doc.n, .string doc.t] 38)).cell? ⟨w.heap.size + 1, 1, none⟩ = some (.int .i64 doc.n) := by simp [go_sem]
  have d2 : ((w.alloc (.cells #[.string n, .slice p ps.length cap] 31)).alloc (.cells #[.int .i64 doc.k, .int .i64 doc.n, .string doc.t] 38)).cell? ⟨w.heap.size + 1, 2, none⟩ = some (.string doc.t) := by simp [go_sem]
  have hs0 : ((w.alloc (.cells #[.string n, .slice p ps.length cap] 31)).alloc (.cells #[.int .i64 doc.k, .int .i64 doc.n, .string doc.t] 38)).heap.size = w.heap.size + 2 := by simp
  have HR : Hid (RowD _ _ _) := hr.next hb0
  have HP : Hid (∀ v ∈ ps, v.path.size ≤ 50) := hp
  have HD : Hid (okB doc = true) := hd
  clear hr hp hd
  go_enter Tryz.func37, Tryz.ntmps37
  go_wp2_with fail
  generalize (w.alloc (.cells #[.string n, .slice p ps.length cap] 31)).alloc (.cells #[.int .i64 doc.k, .int .i64 doc.n, .string doc.t] 38) = W0 at hb0 n0 n1 d0 d1 d2 hs0 HR ⊢
  have HO0 : Hid (OwnS (W0.alloc (.cells #[.string em] 9)) (w.heap.size + 2) (.slice (some ⟨W0.heap.size, 0, none⟩) 1 1) [em]) := ownS_one W0 em (by omega)
  have HB0 : Hid (Below (w.heap.size + 2) W0 (W0.alloc (.cells #[.string em] 9))) := (Below.refl _ _).alloc (by omega) _
  have HS0 : Hid (_ = _) := hs0
  have e1 := HB0.out.cell (p := ⟨w.heap.size, 1, none⟩) (by show w.heap.size < w.heap.size + 2; omega)
  rw [n1] at e1
  rw [hs0] at HO0
  clear hs0
  go_loopw [5, 12] (fun u i wr => ∃ q : Nat, q ≤ ps.length ∧ i = .int .i64 q ∧ OwnS wr (w.heap.size + 2) u (docK (ps.take q) doc) ∧ Below (w.heap.size + 2) W0 wr) (fun _ i _ => ps.length - (intOf i).toNat)
  case atStart => exact ⟨0, Nat.zero_le _, rfl, by rw [List.take_zero]; exact HO0.out, HB0.out⟩
  case round =>
    obtain ⟨q, hq, rfl, hown, hbel⟩ := hrel
    have hz : w.heap.size + 2 ≤ wr.heap.size := by have := hbel.size; have := HS0.out; omega
    have b1 := (hbel.cell (p := ⟨w.heap.size + 1, 0, none⟩) (by show w.heap.size + 1 < w.heap.size + 2; omega)).trans d0
    have b2 := (hbel.cell (p := ⟨w.heap.size + 1, 1, none⟩) (by show w.heap.size + 1 < w.heap.size + 2; omega)).trans d1
    have b3 := (hbel.cell (p := ⟨w.heap.size + 1, 2, none⟩) (by show w.heap.size + 1 < w.heap.size + 2; omega)).trans d2
    have hl1 : w.heap.size + 1 < wr.heap.size := by omega
    clear HO0 HB0 e1
    by_cases hlt : q < ps.length
    · have hq2 : (q : Int) < (ps.length : Int) := by omega
      have hbd := docK_bounds doc HD.out q (ps.take q) (by rw [List.length_take]; omega) (by omega)
      have HTK : Hid (docK (ps.take (q + 1)) doc = eachW (docK (ps.take q) doc) (keysP ps[q] doc)) := docK_take ps doc q hlt
      rcases HR.out.next (show Below W0.heap.size W0 wr by rw [HS0.out]; exact hbel) with h0 | ⟨g, rfl, R⟩
      · subst h0; simp at hlt
      obtain ⟨x0, x1⟩ := R.cells q hlt
      have hgl := R.lt
      obtain ⟨pt, hpt⟩ : ∃ pt, pt = ps[q] := ⟨_, rfl⟩
      have hps : pt.path.size ≤ 50 := by rw [hpt]; exact HP.out _ (List.getElem_mem _)
      rw [← hpt] at x0 x1 HTK
      have hkl := keysP_len pt doc HD.out
      have HKS : Hid (∀ s ∈ keysP pt doc, s.size ≤ 6622) := keysP_size pt doc HD.out
      obtain ⟨M, hM⟩ : ∃ M, M = docK (ps.take q) doc := ⟨_, rfl⟩
      rw [← hM] at hown HTK hbd
      have hml : M.length ≤ 301 := by
        have h1 := hbd.1
        have h2 : (301 : Nat) ^ q ≤ 301 ^ 1 := Nat.pow_le_pow_right (by omega) (by omega)
        omega
      have HMS : Hid (∀ s ∈ M, s.size ≤ 100000) := fun s hs => by have := hbd.2.1 s hs; have : 6622 * q ≤ 6622 * 2 := Nat.mul_le_mul_left _ (by omega); omega
      obtain ⟨p5, c5, rfl, I5⟩ := OwnS.in1 hown
      have hal : Below wr.heap.size wr (wr.alloc (.cells #[.string pt.path, .bool pt.desc] 28)) := (Below.refl _ _).alloc (Nat.le_refl _) _
      have g0 := (hal.cell (p := ⟨w.heap.size + 1, 0, none⟩) hl1).trans b1
      have g1 := (hal.cell (p := ⟨w.heap.size + 1, 1, none⟩) hl1).trans b2
      have g2 := (hal.cell (p := ⟨w.heap.size + 1, 2, none⟩) hl1).trans b3
      have hl2 : w.heap.size + 1 < (wr.alloc (.cells #[.string pt.path, .bool pt.desc] 28)).heap.size := by simp; omega
      have HPK : Hid (∀ W : World, Calls Tryz.prog 68 #[.agg #[.string pt.path, .bool pt.desc], .agg #[.int .i64 doc.k, .int .i64 doc.n, .string doc.t]] W fun e w' => (∃ v, e = .returned v ∧ OwnS w' W.heap.size v (keysP pt doc)) ∧ Below W.heap.size W w') := fun W => partKeys_any pt doc W hps HD.out
      have q0 : (wr.alloc (.cells #[.string pt.path, .bool pt.desc] 28)).cell? ⟨wr.heap.size, 0, none⟩ = some (.string pt.path) := by simp [go_sem]
      have q1 : (wr.alloc (.cells #[.string pt.path, .bool pt.desc] 28)).cell? ⟨wr.heap.size, 1, none⟩ = some (.bool pt.desc) := by simp [go_sem]
      have HI5 : Hid (InT1 _ _ _) := I5.step hal
      have HB5 : Hid (Below (w.heap.size + 2) W0 _) := hbel.trans (hal.mono hz)
      clear R hpt hM hown I5 hbd b1 b2 b3
      go_wp2_with fail
      generalize wr.alloc (.cells #[.string pt.path, .bool pt.desc] 28) = W1 at HI5 HB5 g0 g1 g2 hl2 q0 q1 hal ⊢
      refine (HPK.out _).mono ?_
      rintro e w4 ⟨⟨v4, rfl, O4⟩, hb⟩
      obtain ⟨p4, c4, rfl, I4⟩ := OwnS.in1 O4
      have HI6 : Hid (InT1 _ _ _) := HI5.out.step hb
      have HI4 : Hid (InT1 _ _ _) := I4
      have B4 := HB5.out.trans (hb.mono (by have := HB5.out.size; have := HS0.out; omega))
      clear hb O4 I4 HI5 HPK x0 x1 g0 g1 g2 q0 q1 hal
      go_wp2_with fail
      refine (eachWith_any p5 p4 c5 c4 M (keysP pt doc) _ HI6.out HI4.out (by omega) (by omega) HMS.out (fun s hs => by have := HKS.out s hs; omega)).mono ?_
      rintro e w6 ⟨⟨v6, rfl, O6⟩, hb⟩
      have hz4 : w.heap.size + 2 ≤ w4.heap.size := by have := B4.size; have := HS0.out; omega
      have B6 := B4.trans (hb.mono hz4)
      have HO6 : Hid (OwnS w6 (w.heap.size + 2) v6 (docK (ps.take (q + 1)) doc)) := by rw [HTK.out]; exact owns_mono O6 hz4
      clear hb O6 HI6 HI4
      go_wp2_with fail
      go_roundw
      case rel => exact ⟨q + 1, by omega, by go_num, HO6.out, B6⟩
      case measure => simp [intOf]; omega
    · have hq2 : ¬ (q : Int) < (ps.length : Int) := by omega
      rw [List.take_of_length_le (by omega)] at hown
      have HO7 : Hid (OwnS _ _ _ _) := owns_mono (base' := w.heap.size) hown (by omega)
      have hbw : Below w.heap.size w wr := hb0.trans (hbel.mono (by omega))
      clear hown
      go_wp2_with fail
      go_ret
      exact ⟨⟨_, rfl, HO7.out⟩, hbw⟩

set_option maxRecDepth 4000 in
set_option maxHeartbeats 2000000 in
theorem implDK_any (n : ByteArray) (p : Option Addr) (cap : Nat) (ps : List Prt) (doc : Val) (w : World) (hr : RowD w p ps) (hn : n.size ≤ 1048576) (hl : ps.length ≤ 1048576) (hcap : ps.length ≤ cap) (hs : ∀ v ∈ ps, szPt v) (hd : doc.t.size ≤ 1048576) :
    Calls Tryz.prog 11 #[.agg #[.string n, .slice p ps.length cap], .agg #[.int .i64 doc.k, .int .i64 doc.n, .string doc.t]] w fun e w' => DkR n ps doc w e w' := by
  have hb0 : Below w.heap.size w ((w.alloc (.cells #[.string n, .slice p ps.length cap] 31)).alloc (.cells #[.int .i64 doc.k, .int .i64 doc.n, .string doc.t] 38)) := ((Below.refl _ _).alloc (Nat.le_refl _) _).alloc (by simp) _
  have n0 : ((w.alloc (.cells #[.string n, .slice p ps.length cap] 31)).alloc (.cells #[.int .i64 doc.k, .int .i64 doc.n, .string doc.t] 38)).cell? ⟨w.heap.size, 0, none⟩ = some (.string n) := by simp [go_sem]
  have n1 : ((w.alloc (.cells #[.string n, .slice p ps.length cap] 31)).alloc (.cells #[.int .i64 doc.k, .int .i64 doc.n, .string doc.t] 38)).cell? ⟨w.heap.size, 1, none⟩ = some (.slice p ps.length cap) := by simp [go_sem]
  have d0 : ((w.alloc (.cells #[.string n, .slice p ps.length cap] 31)).alloc (.cells #[.int .i64 doc.k, .int .i64 doc.n, .string doc.t] 38)).cell? ⟨w.heap.size + 1, 0, none⟩ = some (.int .i64 doc.k) := by simp [go_sem]
  have d1 : ((w.alloc (.cells #[.string n, .slice p ps.length cap] 31)).alloc (.cells #[.int .i64 doc.k, .int .i64 doc.n, .string doc.t] 38)).cell? ⟨w.heap.size + 1, 1, none⟩ = some (.int .i64 doc.n) := by simp [go_sem]
  have d2 : ((w.alloc (.cells #[.string n, .slice p ps.length cap] 31)).alloc (.cells #[.int .i64 doc.k, .int .i64 doc.n, .string doc.t] 38)).cell? ⟨w.heap.size + 1, 2, none⟩ = some (.string doc.t) := by simp [go_sem]
  have hs0 : ((w.alloc (.cells #[.string n, .slice p ps.length cap] 31)).alloc (.cells #[.int .i64 doc.k, .int .i64 doc.n, .string doc.t] 38)).heap.size = w.heap.size + 2 := by simp
  have HR : Hid (RowD _ _ _) := hr.next hb0
  have HN : Hid (∀ W : World, RowD W p ps → Calls Tryz.prog 35 #[.agg #[.string n, .slice p ps.length cap]] W fun e w' => e = .returned (.bool (defB n ps)) ∧ Below W.heap.size W w') := fun W hW => defOK_any n p cap ps W hW hn hl hcap hs
  have HD : Hid (∀ W : World, Calls Tryz.prog 36 #[.agg #[.int .i64 doc.k, .int .i64 doc.n, .string doc.t]] W fun e w' => e = .returned (.bool (docB doc)) ∧ Below W.heap.size W w') := fun W => documentOK_any doc W hd
  have HK : Hid (defB n ps = true → docB doc = true → ∀ W : World, RowD W p ps → Calls Tryz.prog 37 #[.agg #[.string n, .slice p ps.length cap], .agg #[.int .i64 doc.k, .int .i64 doc.n, .string doc.t]] W fun e w' => (∃ v, e = .returned v ∧ OwnS w' W.heap.size v (docK ps doc)) ∧ Below W.heap.size W w') := fun h1 h2 W hW => docKeysI_any n p cap ps doc W hW (docB_ok doc h2) (def_parts n ps h1).2.1 (def_parts n ps h1).2.2
  have HKP : Hid (defB n ps = true → docB doc = true → dkL n ps doc = docK ps doc ∧ dkC n ps doc = 0) := fun h1 h2 => dk_ok n ps doc h1 h2
  have HKN : Hid (defB n ps = false ∨ docB doc = false → dkL n ps doc = [] ∧ dkC n ps doc = 1) := fun h => dk_bad n ps doc h
  obtain ⟨A, hA⟩ : ∃ A, A = defB n ps := ⟨_, rfl⟩
  obtain ⟨B, hB⟩ : ∃ B, B = docB doc := ⟨_, rfl⟩
  rw [← hA, ← hB] at HK HKP HKN
  rw [← hA] at HN
  rw [← hB] at HD
  clear hr hs hA hB
  go_enter Tryz.func11, Tryz.ntmps11
  go_wp2_with fail
  generalize (w.alloc (.cells #[.string n, .slice p ps.length cap] 31)).alloc (.cells #[.int .i64 doc.k, .int .i64 doc.n, .string doc.t] 38) = W0 at hb0 n0 n1 d0 d1 d2 hs0 HR ⊢
  have m0 : w.heap.size < W0.heap.size := by omega
  have m1 : w.heap.size + 1 < W0.heap.size := by omega
  clear hs0
  refine (HN.out _ HR.out).mono ?_
  rintro e w1 ⟨rfl, hb⟩
  have HR1 : Hid (RowD _ _ _) := HR.out.next hb
  have hb1 := hb0.trans (hb.mono hb0.size)
  have a0 := (hb.cell (p := ⟨w.heap.size, 0, none⟩) m0).trans n0
  have a1 := (hb.cell (p := ⟨w.heap.size, 1, none⟩) m0).trans n1
  have c0 := (hb.cell (p := ⟨w.heap.size + 1, 0, none⟩) m1).trans d0
  have c1 := (hb.cell (p := ⟨w.heap.size + 1, 1, none⟩) m1).trans d1
  have c2 := (hb.cell (p := ⟨w.heap.size + 1, 2, none⟩) m1).trans d2
  have k0 := Nat.lt_of_lt_of_le m0 hb.size
  have k1 := Nat.lt_of_lt_of_le m1 hb.size
  clear hb n0 n1 d0 d1 d2 HR HN m0 m1
  cases A
  · obtain ⟨e1, e2⟩ := HKN.out (.inl (by first | trivial | rfl))
    have HE1 : Hid (_ = _) := e1
    have HE2 : Hid (_ = _) := e2
    clear e1 e2
    go_wp2_with fail
    go_ret2
    exact ⟨⟨_, by rw [HE2.out]; rfl, by rw [HE1.out]; exact World.ownsRow_nil _ _ _ _⟩, hb1⟩
  · go_wp2_with fail
    refine (HD.out _).mono ?_
    rintro e w2 ⟨rfl, hb⟩
    have HR2 : Hid (RowD _ _ _) := HR1.out.next hb
    have hb2 := hb1.trans (hb.mono hb1.size)
    have a0' := (hb.cell (p := ⟨w.heap.size, 0, none⟩) k0).trans a0
    have a1' := (hb.cell (p := ⟨w.heap.size, 1, none⟩) k0).trans a1
    have c0' := (hb.cell (p := ⟨w.heap.size + 1, 0, none⟩) k1).trans c0
    have c1' := (hb.cell (p := ⟨w.heap.size + 1, 1, none⟩) k1).trans c1
    have c2' := (hb.cell (p := ⟨w.heap.size + 1, 2, none⟩) k1).trans c2
    have k0' := Nat.lt_of_lt_of_le k0 hb.size
    have k1' := Nat.lt_of_lt_of_le k1 hb.size
    clear hb a0 a1 c0 c1 c2 HD HR1
    cases B
    · obtain ⟨e1, e2⟩ := HKN.out (.inr (by first | trivial | rfl))
      have HE1 : Hid (_ = _) := e1
      have HE2 : Hid (_ = _) := e2
      clear e1 e2
      go_wp2_with fail
      go_ret2
      exact ⟨⟨_, by rw [HE2.out]; rfl, by rw [HE1.out]; exact World.ownsRow_nil _ _ _ _⟩, hb2⟩
    · obtain ⟨e1, e2⟩ := HKP.out (by first | trivial | rfl) (by first | trivial | rfl)
      have HE1 : Hid (_ = _) := e1
      have HE2 : Hid (_ = _) := e2
      clear e1 e2
      go_wp2_with fail
      refine (HK.out (by first | trivial | rfl) (by first | trivial | rfl) _ HR2.out).mono ?_
      rintro e w3 ⟨⟨v3, rfl, O3⟩, hb⟩
      have hb3 := hb2.trans (hb.mono hb2.size)
      have HO3 : Hid (OwnS _ _ _ _) := owns_mono O3 hb2.size
      clear hb O3
      go_wp2_with fail
      go_ret2
      exact ⟨⟨_, by rw [HE2.out]; rfl, by rw [HE1.out]; exact HO3.out⟩, hb3⟩

end Go.Proofs.YtdchhjnmhnehiaaGreatDoor
