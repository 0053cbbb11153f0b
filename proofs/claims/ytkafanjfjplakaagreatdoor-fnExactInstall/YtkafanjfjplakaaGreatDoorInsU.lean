/- The specification's inner Install: a new chain. -/
import Derived.Test.YtkafanjfjplakaaGreatDoorInsS
import Derived.Deep.DeepCutAuto
namespace Go.Proofs.YtkafanjfjplakaaGreatDoor.Co
open Go.RowKit Tr
set_option linter.unusedVariables false

theorem own_low {w : World} {base b o : Nat} {T : TypeId} {s m : Nat} {u x : Value} {ys : List Value} (ho : w.ownsRow base T s u m ys) (hb : b < base) : (w.setCell ⟨b, o, none⟩ x).ownsRow base T s u m ys :=
  ho.kept grown_set (by
    cases hu : u.ownBlock with
    | none => exact .inl rfl
    | some g => exact .inr (fun e => by injection e with e; have := (ho.lt g hu).1; omega))
theorem insF_len2 (l : List Chn) (y : Chn) (k : Nat) (hk : k ≤ l.length) : (l.take k ++ y :: l.drop k).length = l.length + 1 := by rw [List.length_append, List.length_take, List.length_cons, List.length_drop]; omega
theorem V5.inVr {W : World} {b : Nat} {v : Ver} (h : V5 W b v) : InVr W (some ⟨b, 0, none⟩) [v] := by
  refine .inr ⟨b, 0, rfl, h.lt, fun i hi => ?_⟩
  obtain ⟨h0, h1, h2, h3, h4⟩ := five h.cb
  have : i = 0 := by simp at hi; omega
  subst this
  simp only [Nat.zero_mul, Nat.zero_add, List.getElem_cons_zero]
  exact ⟨h0, h1, h2, h3, h4⟩

set_option maxRecDepth 8000 in
set_option maxHeartbeats 8000000 in
theorem l08Install_new (c : Col) (t : Int) (x : Wrt) (k g1 g2 cq : Nat) (w : World) (hr : RdC w g1 g2 c) (hs : SzCol c) (hB : collB c = true) (hT : timeB t = true) (hp : PlaceC c.chs x.id k false) :
    Calls Tryz.prog 65 #[.agg #[.string c.name, .slice (some ⟨g1, 0, none⟩) c.chs.length c.chs.length, .slice (some ⟨g2, 0, none⟩) c.dfs.length cq], .int .i64 t, .agg #[.string x.coll, .int .i64 x.id, .bool x.gone, .int .i64 x.doc.k, .int .i64 x.doc.n, .string x.doc.t]] w fun e w' => InsA (insK c t x k false) w e w' := by
  have M0 := MkI.start w (.string c.name) (.slice (some ⟨g1, 0, none⟩) c.chs.length c.chs.length) (.slice (some ⟨g2, 0, none⟩) c.dfs.length cq) (.string em) (.slice none 0 0) (.slice none 0 0) x 30 45 30
  have hpt := collB_parts hB
  have hdf := collB_defs hB
  have HDF : Hid (_ ∧ _) := hdf
  have h20 := hpt.2.2.2.1
  have HPT : Hid (∀ x ∈ c.chs, topB x.id = true ∧ 1 ≤ x.vs.length ∧ x.vs.length ≤ 12 ∧ versB x.id 0 x.vs = true) := hpt.2.2.2.2.2
  have hrise : RiseC c.chs := riseC_of _ _ (by unfold collB at hB; simp only [Bool.and_eq_true] at hB; exact hB.2.2)
  have ht1 : 1 ≤ t ∧ t ≤ 10000 := of_decide_eq_true hT
  have HL : Hid (∀ W : World, RdC W g1 g2 c → Calls _ _ _ W _) := fun W hW => l08Last_any c.name (.slice (some ⟨g2, 0, none⟩) c.dfs.length cq) c.chs x.id g1 c.chs.length W hW.ch hs.chl hs.vs
  have HR : Hid (RdC _ _ _ _) := hr
  have HPL : Hid (PlaceC _ _ _ _) := hp
  obtain ⟨L, hL⟩ : ∃ L, L = lastS c.chs x.id := ⟨_, rfl⟩
  rw [← hL] at HL
  have d0 := M0.c0
  have d1 := M0.c1
  have d2 := M0.c2
  have hfld : ∀ W : World, (Instr.field 96 (.agg #[.int .i64 L.tm, .bool L.gone, .int .i64 L.doc.k, .int .i64 L.doc.n, .string L.doc.t]) 0).run Tryz.prog W = .ok (.int .i64 L.tm) W := fun _ => by kernel_rfl
  have hnt := lastS_none hrise HPL.out
  rw [← hL] at hnt
  have hlt : ¬ t ≤ L.tm := by rw [hnt]; omega
  have HRS : Hid (insK c t x k false = (⟨c.name, c.chs.take k ++ ⟨x.id, [verW t x]⟩ :: c.chs.drop k, c.dfs⟩, 0)) := insK_new c t x k
  have HRI : Hid (RiseC c.chs) := hrise
  obtain ⟨xs, hraw⟩ := rawC_of hr.ch
  have HRW0 : Hid (RawC w g1 c.chs xs) := hraw
  clear hL hnt hrise hraw
  clear hr hp hB hpt hdf hs hT
  go_enter Tryz.func65, Tryz.ntmps65
  go_wp2_with fail
  have fz : ∀ o, (((w.alloc (.cells #[.string c.name, .slice (some ⟨g1, 0, none⟩) c.chs.length c.chs.length, .slice (some ⟨g2, 0, none⟩) c.dfs.length cq] 30)).alloc (.cells #[.string x.coll, .int .i64 x.id, .bool x.gone, .int .i64 x.doc.k, .int .i64 x.doc.n, .string x.doc.t] 45)).alloc (.cells #[.string em, .slice none 0 0, .slice none 0 0] 30)).frozen? ⟨w.heap.size, o, none⟩ = false := fun o => by simp [go_sem]
  generalize ((w.alloc (.cells #[.string c.name, .slice (some ⟨g1, 0, none⟩) c.chs.length c.chs.length, .slice (some ⟨g2, 0, none⟩) c.dfs.length cq] 30)).alloc (.cells #[.string x.coll, .int .i64 x.id, .bool x.gone, .int .i64 x.doc.k, .int .i64 x.doc.n, .string x.doc.t] 45)).alloc (.cells #[.string em, .slice none 0 0, .slice none 0 0] 30) = W0 at M0 d0 d1 d2 fz ⊢
  refine (HL.out _ (HR.out.next M0.bel)).mono ?_
  rintro e w1 ⟨rfl, hb⟩
  have M1 := M0.next hb
  have n0 := M1.c0
  have n1 := M1.c1
  have n2 := M1.c2
  have a1 := M1.wr.c1
  have a2 := M1.wr.c2
  have a3 := M1.wr.c3
  have a4 := M1.wr.c4
  have a5 := M1.wr.c5
  have hl1 := M1.lt
  have fz1 : ∀ o, w1.frozen? ⟨w.heap.size, o, none⟩ = false := fun o => (hb.frozen (p := ⟨w.heap.size, o, none⟩) (by have := M0.lt; show w.heap.size < W0.heap.size; omega)).trans (fz o)
  clear fz
  have hbA : Below w1.heap.size w1 (w1.alloc (.cells #[.int .i64 t, .bool x.gone, .int .i64 x.doc.k, .int .i64 x.doc.n, .string x.doc.t] 96)) := (Below.refl _ _).alloc (Nat.le_refl _) _
  have M2 := M1.next hbA
  have fz2 : ∀ o, (w1.alloc (.cells #[.int .i64 t, .bool x.gone, .int .i64 x.doc.k, .int .i64 x.doc.n, .string x.doc.t] 96)).frozen? ⟨w.heap.size, o, none⟩ = false := fun o => (hbA.frozen (p := ⟨w.heap.size, o, none⟩) (by show w.heap.size < w1.heap.size; omega)).trans (fz1 o)
  have V2 := V5.new w1 (verW t x)
  have hltv : ¬ t ≤ L.tm := by omega
  clear hb M0 d0 d1 d2 HL M1
  go_wp2_with fail
  generalize w1.alloc (.cells #[.int .i64 t, .bool x.gone, .int .i64 x.doc.k, .int .i64 x.doc.n, .string x.doc.t] 96) = WV at M2 V2 hbA fz2 ⊢
  obtain ⟨bv, hbv⟩ : ∃ bv, bv = w1.heap.size := ⟨_, rfl⟩
  rw [← hbv] at V2 ⊢
  have hbv3 : w.heap.size + 3 ≤ bv := by omega
  clear n0 n1 n2 a1 a2 a3 a4 a5 hbv hbA
  go_loopw [9] (fun i wr => ∃ j : Nat, j ≤ k ∧ i = .int .i64 j ∧ Below WV.heap.size WV wr) (fun i _ => k - (intOf i).toNat)
  case atStart => exact ⟨0, Nat.zero_le _, rfl, Below.refl _ _⟩
  case round =>
    obtain ⟨j, hj, rfl, hbr⟩ := hrel
    have M3 := M2.next hbr
    have fz3 : ∀ o, wr.frozen? ⟨w.heap.size, o, none⟩ = false := fun o => (hbr.frozen (p := ⟨w.heap.size, o, none⟩) (by have := M2.lt; show w.heap.size < WV.heap.size; omega)).trans (fz2 o)
    have V3 := V2.step hbr
    have R3 := HR.out.next M3.bel
    have n1 := M3.c1
    have a1 := M3.wr.c1
    have hl3 := M3.lt
    have hgl := R3.ch.lt
    by_cases hjk : j < k
    · have hjn : j < c.chs.length := by have := HPL.out.le; omega
      have x0 := (R3.ch.cells j hjn).1
      have hlt3 : c.chs[j].id < x.id := HPL.out.lo j hjn hjk
      have e1 : decide ((j : Int) < (c.chs.length : Int)) = true := decide_eq_true (by omega)
      have e2 : decide (j < c.chs.length) = true := decide_eq_true hjn
      have e3 : decide (c.chs[j].id < x.id) = true := decide_eq_true hlt3
      have hjI : (j : Int) < (c.chs.length : Int) := by omega
      obtain ⟨I, hI⟩ : ∃ I, I = c.chs[j].id := ⟨_, rfl⟩
      rw [← hI] at x0 hlt3 e3
      clear hI R3 V3 M3
      go_wp2_with fail
      go_quiet (fail)
      go_wp2_with fail
      go_roundw
      case rel => exact ⟨j + 1, by omega, by go_num, below_drewN hbr _⟩
      case measure => simp [intOf]; omega
    · obtain rfl : j = k := by omega
      by_cases hkn : j < c.chs.length
      · have hge := HPL.out.hi j hkn (Nat.le_refl _)
        have hne : ¬ c.chs[j].id = x.id := fun e => by have := HPL.out.at_.2 ⟨hkn, e⟩; cases this
        have x0 := (R3.ch.cells j hkn).1
        have e1 : decide ((j : Int) < (c.chs.length : Int)) = true := decide_eq_true (by omega)
        have e2 : decide (j < c.chs.length) = true := decide_eq_true hkn
        have hjI : (j : Int) < (c.chs.length : Int) := by omega
        obtain ⟨I, hI⟩ : ∃ I, I = c.chs[j].id := ⟨_, rfl⟩
        rw [← hI] at x0 hge hne
        have e3 : decide (I < x.id) = false := decide_eq_false (by omega)
        have e4 : ¬ I < x.id := by omega
        have e5 : (I == x.id) = false := beq_eq_false_iff_ne.mpr hne
        have e6 : decide (I = x.id) = false := decide_eq_false hne
        have Mwr := M3
        have Vwr := V3
        have Rwr := R3
        have fzwr := fz3
        clear hjk M3 V3 R3 fz3
        go_wp2_with fail
        go_quiet (fail)
        obtain ⟨WD, hWWD⟩ : ∃ W9, W9 = wr.drewN nq := ⟨_, rfl⟩
        have hbWD : Below wr.heap.size wr WD := by rw [hWWD]; exact below_drewN (Below.refl _ _) _
        rw [← hWWD]
        have MWD := Mwr.next hbWD
        have VWD := Vwr.step hbWD
        have RWD := Rwr.next hbWD
        have fzWD : ∀ o, WD.frozen? ⟨w.heap.size, o, none⟩ = false := fun o => (hbWD.frozen (p := ⟨w.heap.size, o, none⟩) (by have := Mwr.lt; show w.heap.size < wr.heap.size; omega)).trans (fzwr o)
        have n1WD := MWD.c1
        have a1WD := MWD.wr.c1
        have hlWD := MWD.lt
        have hglWD := RWD.ch.lt
        have x0WD := (RWD.ch.cells j hkn).1
        rw [← hI] at x0WD
        clear hWWD hbWD Mwr Vwr Rwr fzwr
        go_wp2_with fail
        go_quiet (fail)
        obtain ⟨WE, hWWE⟩ : ∃ W9, W9 = WD.drewN nq := ⟨_, rfl⟩
        have hbWE : Below WD.heap.size WD WE := by rw [hWWE]; exact below_drewN (Below.refl _ _) _
        rw [← hWWE]
        have MWE := MWD.next hbWE
        have VWE := VWD.step hbWE
        have RWE := RWD.next hbWE
        have fzWE : ∀ o, WE.frozen? ⟨w.heap.size, o, none⟩ = false := fun o => (hbWE.frozen (p := ⟨w.heap.size, o, none⟩) (by have := MWD.lt; show w.heap.size < WD.heap.size; omega)).trans (fzWD o)
        have n1WE := MWE.c1
        have a1WE := MWE.wr.c1
        have hlWE := MWE.lt
        have hglWE := RWE.ch.lt
        clear hWWE hbWE MWD VWD RWD fzWD
        obtain ⟨p0, p1, p2, p3, p4⟩ := five VWE.cb
        have hvl := VWE.lt
        have hk := HPL.out.le
        have hb1A : Below WE.heap.size WE (WE.alloc (.cells #[.int .i64 t, .bool x.gone, .int .i64 x.doc.k, .int .i64 x.doc.n, .string x.doc.t] 96)) := (Below.refl _ _).alloc (Nat.le_refl _) _
        have hb2A : Below (WE.alloc (.cells #[.int .i64 t, .bool x.gone, .int .i64 x.doc.k, .int .i64 x.doc.n, .string x.doc.t] 96)).heap.size (WE.alloc (.cells #[.int .i64 t, .bool x.gone, .int .i64 x.doc.k, .int .i64 x.doc.n, .string x.doc.t] 96)) ((WE.alloc (.cells #[.int .i64 t, .bool x.gone, .int .i64 x.doc.k, .int .i64 x.doc.n, .string x.doc.t] 96)).alloc (.cells #[.int .i64 x.id, .slice (some ⟨WE.heap.size, 0, none⟩) 1 1] 94)) := (Below.refl _ _).alloc (Nat.le_refl _) _
        have M4 := (MWE.next hb1A).next hb2A
        have G4 : V5 ((WE.alloc (.cells #[.int .i64 t, .bool x.gone, .int .i64 x.doc.k, .int .i64 x.doc.n, .string x.doc.t] 96)).alloc (.cells #[.int .i64 x.id, .slice (some ⟨WE.heap.size, 0, none⟩) 1 1] 94)) WE.heap.size (verW t x) := (V5.new WE (verW t x)).step hb2A
        have q0 : ((WE.alloc (.cells #[.int .i64 t, .bool x.gone, .int .i64 x.doc.k, .int .i64 x.doc.n, .string x.doc.t] 96)).alloc (.cells #[.int .i64 x.id, .slice (some ⟨WE.heap.size, 0, none⟩) 1 1] 94)).cell? ⟨WE.heap.size + 1, 0, none⟩ = some (.int .i64 x.id) := by simp [go_sem]
        have q1 : ((WE.alloc (.cells #[.int .i64 t, .bool x.gone, .int .i64 x.doc.k, .int .i64 x.doc.n, .string x.doc.t] 96)).alloc (.cells #[.int .i64 x.id, .slice (some ⟨WE.heap.size, 0, none⟩) 1 1] 94)).cell? ⟨WE.heap.size + 1, 1, none⟩ = some (.slice (some ⟨WE.heap.size, 0, none⟩) 1 1) := by simp [go_sem]
        have hbx : WE.heap.size + 1 < ((WE.alloc (.cells #[.int .i64 t, .bool x.gone, .int .i64 x.doc.k, .int .i64 x.doc.n, .string x.doc.t] 96)).alloc (.cells #[.int .i64 x.id, .slice (some ⟨WE.heap.size, 0, none⟩) 1 1] 94)).heap.size := by simp
        have rz1 : ((WE.alloc (.cells #[.int .i64 t, .bool x.gone, .int .i64 x.doc.k, .int .i64 x.doc.n, .string x.doc.t] 96)).alloc (.cells #[.int .i64 x.id, .slice (some ⟨WE.heap.size, 0, none⟩) 1 1] 94)).frozen? ⟨w.heap.size, 1, none⟩ = false := ((hb1A.trans (hb2A.mono hb1A.size)).frozen (p := ⟨w.heap.size, 1, none⟩) (by show w.heap.size < WE.heap.size; omega)).trans (fzWE 1)
        clear hb1A hb2A MWE VWE RWE fzWE
        go_wp2_with fail
        generalize (WE.alloc (.cells #[.int .i64 t, .bool x.gone, .int .i64 x.doc.k, .int .i64 x.doc.n, .string x.doc.t] 96)).alloc (.cells #[.int .i64 x.id, .slice (some ⟨WE.heap.size, 0, none⟩) 1 1] 94) = WX at *
        obtain ⟨gv, hgv⟩ : ∃ gv, gv = WE.heap.size := ⟨_, rfl⟩
        obtain ⟨bx, hbxe⟩ : ∃ bx, bx = WE.heap.size + 1 := ⟨_, rfl⟩
        rw [← hbxe] at q0 q1 hbx
        rw [← hgv] at G4 q1
        have hgvw : w.heap.size + 2 < gv := by omega
        have hbxw : w.heap.size + 2 < bx := by omega
        try rw [← hbxe]
        try rw [← hgv]
        have r1 := M4.c1
        have hwX : w.heap.size < WX.heap.size := by have := M4.lt; omega
        have hgvX := G4.lt
        clear hgv hbxe hvl p0 p1 p2 p3 p4
        have HM4 : Hid (MkI _ _ _ _ _ _) := M4
        have HG4 : Hid (V5 _ _ _) := G4
        have HRW : Hid (RawC WX g1 c.chs xs) := HRW0.out.next M4.bel
        have ps1 := cutHeadC g1 0 c.chs.length c.chs.length j hk
        have ps2 := cutTailC g1 0 c.chs.length c.chs.length j hk
        obtain ⟨off5, ho5⟩ : ∃ o, o = if c.chs.length = j then 0 else 0 + j * 2 := ⟨_, rfl⟩
        rw [← ho5] at ps2
        have hadd : ∀ (o i : Nat), (⟨g1, o, none⟩ : Addr).add i = ⟨g1, o + i, none⟩ := fun o i => by unfold Addr.add; split <;> simp_all
        have HSA : Hid (∀ w', Below WX.heap.size WX w' → ∀ i u, (xs.take (j * 2))[i]? = some u → w'.cell? ((⟨g1, 0, none⟩ : Addr).add i) = some u) := fun w' hb i u hi => by
          rw [hadd, Nat.zero_add]
          refine (hb.cell (p := ⟨g1, i, none⟩) HRW.out.lt).trans (HRW.out.cells i u ?_)
          rw [List.getElem?_take] at hi
          split at hi
          · exact hi
          · cases hi
        have HSB : Hid (∀ w', Below WX.heap.size WX w' → ∀ i u, (xs.drop (j * 2))[i]? = some u → w'.cell? ((⟨g1, off5, none⟩ : Addr).add i) = some u) := fun w' hb i u hi => by
          by_cases h : c.chs.length = j
          · rw [List.drop_eq_nil_of_le (by have := HRW.out.len; omega)] at hi; simp at hi
          · rw [ho5, if_neg h, Nat.zero_add, hadd]
            refine (hb.cell (p := ⟨g1, j * 2 + i, none⟩) HRW.out.lt).trans (HRW.out.cells _ u ?_)
            rw [List.getElem?_drop] at hi; exact hi
        have OA := World.ownsRow_made (base := WX.heap.size) (size := 2) (e := 94) WX #[] 0 (Nat.le_refl _) (by unfold maxLen; omega) rfl
        have OB := OA.alloc (.cells #[.int .i64 x.id, .slice (some ⟨gv, 0, none⟩) 1 1] 94)
        have OC := World.ownsRow_made (base := WX.heap.size) (size := 2) (e := 94) (WX.alloc (.cells #[.int .i64 x.id, .slice (some ⟨gv, 0, none⟩) 1 1] 94)) #[] 0 (by simp) (by unfold maxLen; omega) rfl
        simp only [heap_size_alloc] at OC
        have HOA : Hid (World.ownsRow _ _ _ _ _ _ _) := OA
        have HOB : Hid (World.ownsRow _ _ _ _ _ _ _) := OB
        have HOC : Hid (World.ownsRow _ _ _ _ _ _ _) := OC
        have HLB : Hid (Lies2 ((WX.alloc (.cells #[] 94)).alloc (.cells #[.int .i64 x.id, .slice (some ⟨gv, 0, none⟩) 1 1] 94)) (WX.heap.size + 1) ⟨.int .i64 x.id, .slice (some ⟨gv, 0, none⟩) 1 1, rfl, rfl⟩) := (by have h := heap_alloc_new (WX.alloc (.cells #[] 94)) (.cells #[.int .i64 x.id, .slice (some ⟨gv, 0, none⟩) 1 1] 94); rw [heap_size_alloc] at h; exact h)
        have HLC : Hid (Lies2 ((WX.alloc (.cells #[.int .i64 x.id, .slice (some ⟨gv, 0, none⟩) 1 1] 94)).alloc (.cells #[] 94)) WX.heap.size ⟨.int .i64 x.id, .slice (some ⟨gv, 0, none⟩) 1 1, rfl, rfl⟩) := (by show ((WX.alloc (.cells #[.int .i64 x.id, .slice (some ⟨gv, 0, none⟩) 1 1] 94)).alloc (.cells #[] 94)).heap[WX.heap.size]? = _; rw [heap_alloc_old _ _ (by simp)]; exact heap_alloc_new _ _)
        have HNN : Hid (0 + j + 1 + (c.chs.length - j) = c.chs.length + 1) := (by omega : 0 + j + 1 + (c.chs.length - j) = c.chs.length + 1)
        clear ho5 OA OB OC hadd M4 G4
        go_cut [] (fun wx => ∃ w3' g3 c3, w3'.ownsRow WX.heap.size 94 2 (.slice (some ⟨g3, 0, none⟩) (c.chs.length + 1) c3) (c.chs.length + 1) (xs.take (j * 2) ++ [.int .i64 x.id, .slice (some ⟨gv, 0, none⟩) 1 1] ++ xs.drop (j * 2)) ∧ Below WX.heap.size WX w3' ∧ wx = w3'.setCell ⟨w.heap.size, 1, none⟩ (.slice (some ⟨g3, 0, none⟩) (c.chs.length + 1) c3))
        case first =>
          have kp : ∀ w', Below WX.heap.size WX w' → (w'.cell? ⟨w.heap.size, 1, none⟩ = some (.slice (some ⟨g1, 0, none⟩) c.chs.length c.chs.length) ∧ w'.cell? ⟨bx, 0, none⟩ = some (.int .i64 x.id) ∧ w'.cell? ⟨bx, 1, none⟩ = some (.slice (some ⟨gv, 0, none⟩) 1 1)) := fun w' b => ⟨(b.cell (p := ⟨w.heap.size, 1, none⟩) hwX).trans r1, (b.cell (p := ⟨bx, 0, none⟩) hbx).trans q0, (b.cell (p := ⟨bx, 1, none⟩) hbx).trans q1⟩
          refine wp_region_last2 (S := fun w0 => w0.cell? ⟨w.heap.size, 1, none⟩ = some (.slice (some ⟨g1, 0, none⟩) c.chs.length c.chs.length) ∧ w0.cell? ⟨bx, 0, none⟩ = some (.int .i64 x.id) ∧ w0.cell? ⟨bx, 1, none⟩ = some (.slice (some ⟨gv, 0, none⟩) 1 1)) 15 (by kernel_rfl) rfl (by kernel_rfl) (kp _ (Below.refl _ _).drew) (fun hHeld => ?_)
          simp only [List.take_succ_cons, List.take_zero]
          refine take_at (i := 1) (v := ?_) (.succ (.zero)) (by kernel_rfl) (by kernel_rfl) (by kernel_rfl) (fun _ _ _ h => h) (Or.inl ⟨by rfl, ?_⟩) (by assumption) ?_
          rotate_left
          focus (intro w' hSw; (try dsimp only at hSw); go_simp; try (with_reducible rfl))
          try simp only [Act.put, List.setIfInBounds_toArray, List.set_cons_zero, List.set_cons_succ]
          refine take_at (i := 2) (v := ?_) (.succ (.succ (.zero))) (by kernel_rfl) (by kernel_rfl) (by kernel_rfl) (fun _ _ _ h => h) (Or.inl ⟨by rfl, ?_⟩) (by assumption) ?_
          rotate_left
          focus (intro w' hSw; (try dsimp only at hSw); go_simp; try (with_reducible rfl))
          try simp only [Act.put, List.setIfInBounds_toArray, List.set_cons_zero, List.set_cons_succ]
          refine take_at (i := 3) (v := ?_) (.succ (.succ (.succ (.zero)))) (by kernel_rfl) (by kernel_rfl) (by kernel_rfl) (fun _ _ _ h => h) (Or.inl ⟨by rfl, ?_⟩) (by assumption) ?_
          rotate_left
          focus (intro w' hSw; (try dsimp only at hSw); go_simp; try (with_reducible rfl))
          try simp only [Act.put, List.setIfInBounds_toArray, List.set_cons_zero, List.set_cons_succ]
          refine take_at (i := 4) (v := ?_) (.succ (.succ (.succ (.succ (.zero))))) (by kernel_rfl) (by kernel_rfl) (by kernel_rfl) (fun _ _ _ h => h) (Or.inl ⟨by rfl, ?_⟩) (by assumption) ?_
          rotate_left
          focus (intro w' hSw; (try dsimp only at hSw); go_simp; try (with_reducible rfl))
          try simp only [Act.put, List.setIfInBounds_toArray, List.set_cons_zero, List.set_cons_succ]
          refine take_at (i := 6) (v := ?_) (.succ (.succ (.succ (.succ (.succ (.succ (.zero))))))) (by kernel_rfl) (by kernel_rfl) (by kernel_rfl) (fun _ _ _ h => h) (Or.inl ⟨by rfl, ?_⟩) (by assumption) ?_
          rotate_left
          focus (intro w' hSw; (try dsimp only at hSw); go_simp; try (with_reducible rfl))
          try simp only [Act.put, List.setIfInBounds_toArray, List.set_cons_zero, List.set_cons_succ]
          refine take_at (i := 9) (v := ?_) (.succ (.succ (.succ (.succ (.succ (.succ (.succ (.succ (.succ (.zero)))))))))) (by kernel_rfl) (by kernel_rfl) (by kernel_rfl) (fun _ _ _ h => h) (Or.inl ⟨by rfl, ?_⟩) (by assumption) ?_
          rotate_left
          focus (intro w' hSw; (try dsimp only at hSw); go_simp; try (with_reducible rfl))
          try simp only [Act.put, List.setIfInBounds_toArray, List.set_cons_zero, List.set_cons_succ]
          refine take_at (i := 10) (v := ?_) (.succ (.succ (.succ (.succ (.succ (.succ (.succ (.succ (.succ (.succ (.zero))))))))))) (by kernel_rfl) (by kernel_rfl) (by kernel_rfl) (fun _ _ _ h => h) (Or.inl ⟨by rfl, ?_⟩) (by assumption) ?_
          rotate_left
          focus (intro w' hSw; (try dsimp only at hSw); go_simp; try (with_reducible rfl))
          try simp only [Act.put, List.setIfInBounds_toArray, List.set_cons_zero, List.set_cons_succ]
          refine take_at (i := 11) (v := ?_) (.succ (.succ (.succ (.succ (.succ (.succ (.succ (.succ (.succ (.succ (.succ (.zero)))))))))))) (by kernel_rfl) (by kernel_rfl) (by kernel_rfl) (fun _ _ _ h => h) (Or.inl ⟨by rfl, ?_⟩) (by assumption) ?_
          rotate_left
          focus (intro w' hSw; (try dsimp only at hSw); go_simp; try (with_reducible rfl))
          try simp only [Act.put, List.setIfInBounds_toArray, List.set_cons_zero, List.set_cons_succ]
          refine take_at (i := 12) (v := ?_) (.succ (.succ (.succ (.succ (.succ (.succ (.succ (.succ (.succ (.succ (.succ (.succ (.zero))))))))))))) (by kernel_rfl) (by kernel_rfl) (by kernel_rfl) (fun _ _ _ h => h) (Or.inl ⟨by rfl, ?_⟩) (by assumption) ?_
          rotate_left
          focus (intro w' hSw; (try dsimp only at hSw); go_simp; try (with_reducible rfl))
          try simp only [Act.put, List.setIfInBounds_toArray, List.set_cons_zero, List.set_cons_succ]
          refine wpAnyH_ready (rs := [0, 7]) (by kernel_rfl) (by simp) ?_
          refine (cons_at (i := 0) .zero (fun K hK => ?_) (cons_at (i := 7) (.succ (.succ (.succ (.succ (.succ (.succ (.succ (.zero)))))))) (fun K hK => ?_) AllReadyH.nil))
          · go_simp
            refine hK.out _ _ ?_ ?_
            focus exact kp _ (by first | exact (Below.refl _ _) | exact (Below.refl _ _).alloc (by omega) _ | (repeat (first | (with_reducible exact Below.refl _ _) | (with_reducible assumption) | (with_reducible apply below_drewN) | (with_reducible apply Below.drew) | ((with_reducible refine Below.alloc ?_ ?_ _); rotate_left; focus (first | (simp; done) | (simp; omega) | omega)))))
            clear hK K hHeld
            intro hHeld
            try simp only [Act.put, List.setIfInBounds_toArray, List.set_cons_zero, List.set_cons_succ]
            refine wpAnyH_ready (rs := [5, 7]) (by kernel_rfl) (by simp) ?_
            refine (cons_at (i := 5) (.succ (.succ (.succ (.succ (.succ (.zero)))))) (fun K hK => ?_) (cons_at (i := 7) (.succ (.succ (.succ (.succ (.succ (.succ (.succ (.zero)))))))) (fun K hK => ?_) AllReadyH.nil))
            · (refine step_appCh rfl (.tmp 90) (.tmp 94) rfl WX.heap.size 0 _ [] rfl (by first | exact HOA.out | exact HOB.out | exact HOC.out) ⟨g1, 0, none⟩ j c.chs.length (xs.take (j * 2)) rfl (by rw [List.length_take, HRW.out.len]; omega) (fun j u hj => HSA.out _ (by (repeat (first | (with_reducible exact Below.refl _ _) | (with_reducible assumption) | (with_reducible apply below_drewN) | (with_reducible apply Below.drew) | ((with_reducible refine Below.setCell ?_ ?_ _); rotate_left; focus (first | (simp; done) | (simp; omega) | omega)) | ((with_reducible refine Below.alloc ?_ ?_ _); rotate_left; focus (first | (simp; done) | (simp; omega) | omega))))) j u hj) (fun u hu => HRW.out.one u (List.mem_of_mem_take hu)) (by omega) (by omega) (by first | (simp; done) | (simp; omega)) ?_; intro v1 w1' o1 gr1 at1; have b1' : Below WX.heap.size WX w1' := Below.grown (by (repeat (first | (with_reducible exact Below.refl _ _) | (with_reducible assumption) | (with_reducible apply below_drewN) | (with_reducible apply Below.drew) | ((with_reducible refine Below.setCell ?_ ?_ _); rotate_left; focus (first | (simp; done) | (simp; omega) | omega)) | ((with_reducible refine Below.alloc ?_ ?_ _); rotate_left; focus (first | (simp; done) | (simp; omega) | omega))))) gr1 (by first | (simp; done) | (simp; omega)) (fun x hx => by first | exact (HOA.out.lt x hx).1 | exact (HOB.out.lt x hx).1 | exact (HOC.out.lt x hx).1); have hz1 := b1'.size; (first | have L1 : Hid (Lies2 w1' (WX.heap.size + 1) ⟨.int .i64 x.id, .slice (some ⟨gv, 0, none⟩) 1 1, rfl, rfl⟩) := lies2_grow gr1 HLB.out (fun e => by have e' := Option.some.inj (show some (WX.heap.size + 1) = some WX.heap.size from e); omega) (by first | (simp; done) | (simp; omega)) | have L1 : Hid (Lies2 w1' WX.heap.size ⟨.int .i64 x.id, .slice (some ⟨gv, 0, none⟩) 1 1, rfl, rfl⟩) := lies2_grow gr1 HLC.out (fun e => by have e' := Option.some.inj (show some WX.heap.size = some (WX.heap.size + 1) from e); omega) (by first | (simp; done) | (simp; omega)) | skip); have H1 : Hid (World.ownsRow _ _ _ _ _ _ _) := o1; have HB2 : Hid (Below WX.heap.size WX w1') := b1'; clear o1 gr1 at1 b1')
              refine hK.out _ _ ?_ ?_
              focus exact kp _ (by first | exact HB2.out | exact HB2.out.alloc (by omega) _ | (repeat (first | (with_reducible exact Below.refl _ _) | (with_reducible assumption) | (with_reducible apply below_drewN) | (with_reducible apply Below.drew) | ((with_reducible refine Below.alloc ?_ ?_ _); rotate_left; focus (first | (simp; done) | (simp; omega) | omega)))))
              clear hK K hHeld
              intro hHeld
              try simp only [Act.put, List.setIfInBounds_toArray, List.set_cons_zero, List.set_cons_succ]
              refine wpAnyH_ready (rs := [7]) (by kernel_rfl) (by simp) ?_
              refine (cons_at (i := 7) (.succ (.succ (.succ (.succ (.succ (.succ (.succ (.zero)))))))) (fun K hK => ?_) AllReadyH.nil)
              go_simp
              refine hK.out _ _ ?_ ?_
              focus exact kp _ (by first | exact HB2.out | exact HB2.out.alloc (by omega) _ | (repeat (first | (with_reducible exact Below.refl _ _) | (with_reducible assumption) | (with_reducible apply below_drewN) | (with_reducible apply Below.drew) | ((with_reducible refine Below.alloc ?_ ?_ _); rotate_left; focus (first | (simp; done) | (simp; omega) | omega)))))
              clear hK K hHeld
              intro hHeld
              try simp only [Act.put, List.setIfInBounds_toArray, List.set_cons_zero, List.set_cons_succ]
              refine wpAnyH_ready (rs := [8]) (by kernel_rfl) (by simp) ?_
              refine (cons_at (i := 8) (.succ (.succ (.succ (.succ (.succ (.succ (.succ (.succ (.zero))))))))) (fun K hK => ?_) AllReadyH.nil)
              (refine step_appCh rfl (.tmp 95) (.tmp 97) rfl WX.heap.size (0 + j) v1 ([] ++ xs.take (j * 2)) rfl (by first | exact H1.out | exact H1.out.alloc _) _ 1 1 [.int .i64 x.id, .slice (some ⟨gv, 0, none⟩) 1 1] rfl rfl (by first | exact lies2_cells (f := ⟨.int .i64 x.id, .slice (some ⟨gv, 0, none⟩) 1 1, rfl, rfl⟩) (heap_alloc_new _ _) | exact lies2_cells (f := ⟨.int .i64 x.id, .slice (some ⟨gv, 0, none⟩) 1 1, rfl, rfl⟩) L1.out) (two_oneA _ rfl _ _ _) (by omega) (by omega) (by first | exact hz1 | (simp; omega)) ?_; intro v2 w2' o2 gr2 at2; have b2' : Below WX.heap.size WX w2' := Below.grown (by first | exact HB2.out | exact HB2.out.alloc hz1 _) gr2 (by first | exact hz1 | (simp; omega)) (fun x hx => (H1.out.lt x hx).1); have hz2 := b2'.size; have H2 : Hid (World.ownsRow _ _ _ _ _ _ _) := o2; have HB3 : Hid (Below WX.heap.size WX w2') := b2'; clear o2 gr2 at2 b2')
              refine hK.out _ _ ?_ ?_
              focus exact kp _ (by first | exact HB3.out | exact HB3.out.alloc (by omega) _ | (repeat (first | (with_reducible exact Below.refl _ _) | (with_reducible assumption) | (with_reducible apply below_drewN) | (with_reducible apply Below.drew) | ((with_reducible refine Below.alloc ?_ ?_ _); rotate_left; focus (first | (simp; done) | (simp; omega) | omega)))))
              clear hK K hHeld
              intro hHeld
              try simp only [Act.put, List.setIfInBounds_toArray, List.set_cons_zero, List.set_cons_succ]
              refine wpAnyH_ready (rs := [13]) (by kernel_rfl) (by simp) ?_
              refine (cons_at (i := 13) (.succ (.succ (.succ (.succ (.succ (.succ (.succ (.succ (.succ (.succ (.succ (.succ (.succ (.zero)))))))))))))) (fun K hK => ?_) AllReadyH.nil)
              (refine step_appCh rfl (.tmp 98) (.tmp 102) rfl WX.heap.size (0 + j + 1) v2 ([] ++ xs.take (j * 2) ++ [.int .i64 x.id, .slice (some ⟨gv, 0, none⟩) 1 1]) rfl H2.out ⟨g1, off5, none⟩ (c.chs.length - j) (c.chs.length - j) (xs.drop (j * 2)) rfl (by rw [List.length_drop, HRW.out.len]; omega) (fun j u hj => HSB.out _ HB3.out j u hj) (fun u hu => HRW.out.one u (List.mem_of_mem_drop hu)) (by omega) (by omega) hz2 ?_; intro v3 w3' o3 gr3 at3; have b3' : Below WX.heap.size WX w3' := Below.grown HB3.out gr3 hz2 (fun x hx => (H2.out.lt x hx).1); have hz3 := b3'.size; obtain ⟨g3, c3, hv3, hg3, _, _, _⟩ := rowForm o3 (by omega); subst hv3; have H3 : Hid (w3'.ownsRow WX.heap.size 94 2 (.slice (some ⟨g3, 0, none⟩) (c.chs.length + 1) c3) (c.chs.length + 1) (xs.take (j * 2) ++ [.int .i64 x.id, .slice (some ⟨gv, 0, none⟩) 1 1] ++ xs.drop (j * 2))) := (by have h := o3; rw [HNN.out, List.nil_append] at h; exact h); rw [HNN.out]; have HB4 : Hid (Below WX.heap.size WX w3') := b3'; have f4 := (b3'.cell (p := ⟨w.heap.size, 1, none⟩) hwX).trans r1; have f5 := (b3'.frozen (p := ⟨w.heap.size, 1, none⟩) hwX).trans rz1; clear o3 gr3 at3 b3')
              refine hK.out _ _ ?_ ?_
              focus exact kp _ (by first | exact HB4.out | exact HB4.out.alloc (by omega) _ | (repeat (first | (with_reducible exact Below.refl _ _) | (with_reducible assumption) | (with_reducible apply below_drewN) | (with_reducible apply Below.drew) | ((with_reducible refine Below.alloc ?_ ?_ _); rotate_left; focus (first | (simp; done) | (simp; omega) | omega)))))
              clear hK K hHeld
              intro hHeld
              try simp only [Act.put, List.setIfInBounds_toArray, List.set_cons_zero, List.set_cons_succ]
              refine take_at (i := 14) (v := ?_) (.succ (.succ (.succ (.succ (.succ (.succ (.succ (.succ (.succ (.succ (.succ (.succ (.succ (.succ (.zero))))))))))))))) (by kernel_rfl) (by kernel_rfl) (by kernel_rfl) (fun _ _ _ h => h) (Or.inl ⟨by rfl, ?_⟩) (by assumption) ?_
              rotate_left
              focus (intro w' hSw; (try dsimp only at hSw); go_simp; try (with_reducible rfl))
              try simp only [Act.put, List.setIfInBounds_toArray, List.set_cons_zero, List.set_cons_succ]
              refine wpAnyH_done (by kernel_rfl) ?_ _
              refine last_at (.succ (.succ (.succ (.succ (.succ (.succ (.succ (.succ (.succ (.succ (.succ (.succ (.succ (.succ (.succ (.zero)))))))))))))))) (fun K hK => ?_)
              go_simp
              refine hK.out _ _ ?_
              try go_wp2_with fail
              go_meet
              exact ⟨w3', g3, c3, H3.out, HB4.out, rfl⟩
            · go_simp
              refine hK.out _ _ ?_ ?_
              focus exact kp _ (by first | exact (Below.refl _ _) | exact (Below.refl _ _).alloc (by omega) _ | (repeat (first | (with_reducible exact Below.refl _ _) | (with_reducible assumption) | (with_reducible apply below_drewN) | (with_reducible apply Below.drew) | ((with_reducible refine Below.alloc ?_ ?_ _); rotate_left; focus (first | (simp; done) | (simp; omega) | omega)))))
              clear hK K hHeld
              intro hHeld
              try simp only [Act.put, List.setIfInBounds_toArray, List.set_cons_zero, List.set_cons_succ]
              refine wpAnyH_ready (rs := [5]) (by kernel_rfl) (by simp) ?_
              refine (cons_at (i := 5) (.succ (.succ (.succ (.succ (.succ (.zero)))))) (fun K hK => ?_) AllReadyH.nil)
              (refine step_appCh rfl (.tmp 90) (.tmp 94) rfl WX.heap.size 0 _ [] rfl (by first | exact HOA.out | exact HOB.out | exact HOC.out) ⟨g1, 0, none⟩ j c.chs.length (xs.take (j * 2)) rfl (by rw [List.length_take, HRW.out.len]; omega) (fun j u hj => HSA.out _ (by (repeat (first | (with_reducible exact Below.refl _ _) | (with_reducible assumption) | (with_reducible apply below_drewN) | (with_reducible apply Below.drew) | ((with_reducible refine Below.setCell ?_ ?_ _); rotate_left; focus (first | (simp; done) | (simp; omega) | omega)) | ((with_reducible refine Below.alloc ?_ ?_ _); rotate_left; focus (first | (simp; done) | (simp; omega) | omega))))) j u hj) (fun u hu => HRW.out.one u (List.mem_of_mem_take hu)) (by omega) (by omega) (by first | (simp; done) | (simp; omega)) ?_; intro v1 w1' o1 gr1 at1; have b1' : Below WX.heap.size WX w1' := Below.grown (by (repeat (first | (with_reducible exact Below.refl _ _) | (with_reducible assumption) | (with_reducible apply below_drewN) | (with_reducible apply Below.drew) | ((with_reducible refine Below.setCell ?_ ?_ _); rotate_left; focus (first | (simp; done) | (simp; omega) | omega)) | ((with_reducible refine Below.alloc ?_ ?_ _); rotate_left; focus (first | (simp; done) | (simp; omega) | omega))))) gr1 (by first | (simp; done) | (simp; omega)) (fun x hx => by first | exact (HOA.out.lt x hx).1 | exact (HOB.out.lt x hx).1 | exact (HOC.out.lt x hx).1); have hz1 := b1'.size; (first | have L1 : Hid (Lies2 w1' (WX.heap.size + 1) ⟨.int .i64 x.id, .slice (some ⟨gv, 0, none⟩) 1 1, rfl, rfl⟩) := lies2_grow gr1 HLB.out (fun e => by have e' := Option.some.inj (show some (WX.heap.size + 1) = some WX.heap.size from e); omega) (by first | (simp; done) | (simp; omega)) | have L1 : Hid (Lies2 w1' WX.heap.size ⟨.int .i64 x.id, .slice (some ⟨gv, 0, none⟩) 1 1, rfl, rfl⟩) := lies2_grow gr1 HLC.out (fun e => by have e' := Option.some.inj (show some WX.heap.size = some (WX.heap.size + 1) from e); omega) (by first | (simp; done) | (simp; omega)) | skip); have H1 : Hid (World.ownsRow _ _ _ _ _ _ _) := o1; have HB2 : Hid (Below WX.heap.size WX w1') := b1'; clear o1 gr1 at1 b1')
              refine hK.out _ _ ?_ ?_
              focus exact kp _ (by first | exact HB2.out | exact HB2.out.alloc (by omega) _ | (repeat (first | (with_reducible exact Below.refl _ _) | (with_reducible assumption) | (with_reducible apply below_drewN) | (with_reducible apply Below.drew) | ((with_reducible refine Below.alloc ?_ ?_ _); rotate_left; focus (first | (simp; done) | (simp; omega) | omega)))))
              clear hK K hHeld
              intro hHeld
              try simp only [Act.put, List.setIfInBounds_toArray, List.set_cons_zero, List.set_cons_succ]
              refine wpAnyH_ready (rs := [8]) (by kernel_rfl) (by simp) ?_
              refine (cons_at (i := 8) (.succ (.succ (.succ (.succ (.succ (.succ (.succ (.succ (.zero))))))))) (fun K hK => ?_) AllReadyH.nil)
              (refine step_appCh rfl (.tmp 95) (.tmp 97) rfl WX.heap.size (0 + j) v1 ([] ++ xs.take (j * 2)) rfl (by first | exact H1.out | exact H1.out.alloc _) _ 1 1 [.int .i64 x.id, .slice (some ⟨gv, 0, none⟩) 1 1] rfl rfl (by first | exact lies2_cells (f := ⟨.int .i64 x.id, .slice (some ⟨gv, 0, none⟩) 1 1, rfl, rfl⟩) (heap_alloc_new _ _) | exact lies2_cells (f := ⟨.int .i64 x.id, .slice (some ⟨gv, 0, none⟩) 1 1, rfl, rfl⟩) L1.out) (two_oneA _ rfl _ _ _) (by omega) (by omega) (by first | exact hz1 | (simp; omega)) ?_; intro v2 w2' o2 gr2 at2; have b2' : Below WX.heap.size WX w2' := Below.grown (by first | exact HB2.out | exact HB2.out.alloc hz1 _) gr2 (by first | exact hz1 | (simp; omega)) (fun x hx => (H1.out.lt x hx).1); have hz2 := b2'.size; have H2 : Hid (World.ownsRow _ _ _ _ _ _ _) := o2; have HB3 : Hid (Below WX.heap.size WX w2') := b2'; clear o2 gr2 at2 b2')
              refine hK.out _ _ ?_ ?_
              focus exact kp _ (by first | exact HB3.out | exact HB3.out.alloc (by omega) _ | (repeat (first | (with_reducible exact Below.refl _ _) | (with_reducible assumption) | (with_reducible apply below_drewN) | (with_reducible apply Below.drew) | ((with_reducible refine Below.alloc ?_ ?_ _); rotate_left; focus (first | (simp; done) | (simp; omega) | omega)))))
              clear hK K hHeld
              intro hHeld
              try simp only [Act.put, List.setIfInBounds_toArray, List.set_cons_zero, List.set_cons_succ]
              refine wpAnyH_ready (rs := [13]) (by kernel_rfl) (by simp) ?_
              refine (cons_at (i := 13) (.succ (.succ (.succ (.succ (.succ (.succ (.succ (.succ (.succ (.succ (.succ (.succ (.succ (.zero)))))))))))))) (fun K hK => ?_) AllReadyH.nil)
              (refine step_appCh rfl (.tmp 98) (.tmp 102) rfl WX.heap.size (0 + j + 1) v2 ([] ++ xs.take (j * 2) ++ [.int .i64 x.id, .slice (some ⟨gv, 0, none⟩) 1 1]) rfl H2.out ⟨g1, off5, none⟩ (c.chs.length - j) (c.chs.length - j) (xs.drop (j * 2)) rfl (by rw [List.length_drop, HRW.out.len]; omega) (fun j u hj => HSB.out _ HB3.out j u hj) (fun u hu => HRW.out.one u (List.mem_of_mem_drop hu)) (by omega) (by omega) hz2 ?_; intro v3 w3' o3 gr3 at3; have b3' : Below WX.heap.size WX w3' := Below.grown HB3.out gr3 hz2 (fun x hx => (H2.out.lt x hx).1); have hz3 := b3'.size; obtain ⟨g3, c3, hv3, hg3, _, _, _⟩ := rowForm o3 (by omega); subst hv3; have H3 : Hid (w3'.ownsRow WX.heap.size 94 2 (.slice (some ⟨g3, 0, none⟩) (c.chs.length + 1) c3) (c.chs.length + 1) (xs.take (j * 2) ++ [.int .i64 x.id, .slice (some ⟨gv, 0, none⟩) 1 1] ++ xs.drop (j * 2))) := (by have h := o3; rw [HNN.out, List.nil_append] at h; exact h); rw [HNN.out]; have HB4 : Hid (Below WX.heap.size WX w3') := b3'; have f4 := (b3'.cell (p := ⟨w.heap.size, 1, none⟩) hwX).trans r1; have f5 := (b3'.frozen (p := ⟨w.heap.size, 1, none⟩) hwX).trans rz1; clear o3 gr3 at3 b3')
              refine hK.out _ _ ?_ ?_
              focus exact kp _ (by first | exact HB4.out | exact HB4.out.alloc (by omega) _ | (repeat (first | (with_reducible exact Below.refl _ _) | (with_reducible assumption) | (with_reducible apply below_drewN) | (with_reducible apply Below.drew) | ((with_reducible refine Below.alloc ?_ ?_ _); rotate_left; focus (first | (simp; done) | (simp; omega) | omega)))))
              clear hK K hHeld
              intro hHeld
              try simp only [Act.put, List.setIfInBounds_toArray, List.set_cons_zero, List.set_cons_succ]
              refine take_at (i := 14) (v := ?_) (.succ (.succ (.succ (.succ (.succ (.succ (.succ (.succ (.succ (.succ (.succ (.succ (.succ (.succ (.zero))))))))))))))) (by kernel_rfl) (by kernel_rfl) (by kernel_rfl) (fun _ _ _ h => h) (Or.inl ⟨by rfl, ?_⟩) (by assumption) ?_
              rotate_left
              focus (intro w' hSw; (try dsimp only at hSw); go_simp; try (with_reducible rfl))
              try simp only [Act.put, List.setIfInBounds_toArray, List.set_cons_zero, List.set_cons_succ]
              refine wpAnyH_done (by kernel_rfl) ?_ _
              refine last_at (.succ (.succ (.succ (.succ (.succ (.succ (.succ (.succ (.succ (.succ (.succ (.succ (.succ (.succ (.succ (.zero)))))))))))))))) (fun K hK => ?_)
              go_simp
              refine hK.out _ _ ?_
              try go_wp2_with fail
              go_meet
              exact ⟨w3', g3, c3, H3.out, HB4.out, rfl⟩
          · go_simp
            refine hK.out _ _ ?_ ?_
            focus exact kp _ (by first | exact (Below.refl _ _) | exact (Below.refl _ _).alloc (by omega) _ | (repeat (first | (with_reducible exact Below.refl _ _) | (with_reducible assumption) | (with_reducible apply below_drewN) | (with_reducible apply Below.drew) | ((with_reducible refine Below.alloc ?_ ?_ _); rotate_left; focus (first | (simp; done) | (simp; omega) | omega)))))
            clear hK K hHeld
            intro hHeld
            try simp only [Act.put, List.setIfInBounds_toArray, List.set_cons_zero, List.set_cons_succ]
            refine wpAnyH_ready (rs := [0]) (by kernel_rfl) (by simp) ?_
            refine (cons_at (i := 0) .zero (fun K hK => ?_) AllReadyH.nil)
            go_simp
            refine hK.out _ _ ?_ ?_
            focus exact kp _ (by first | exact (Below.refl _ _) | exact (Below.refl _ _).alloc (by omega) _ | (repeat (first | (with_reducible exact Below.refl _ _) | (with_reducible assumption) | (with_reducible apply below_drewN) | (with_reducible apply Below.drew) | ((with_reducible refine Below.alloc ?_ ?_ _); rotate_left; focus (first | (simp; done) | (simp; omega) | omega)))))
            clear hK K hHeld
            intro hHeld
            try simp only [Act.put, List.setIfInBounds_toArray, List.set_cons_zero, List.set_cons_succ]
            refine wpAnyH_ready (rs := [5]) (by kernel_rfl) (by simp) ?_
            refine (cons_at (i := 5) (.succ (.succ (.succ (.succ (.succ (.zero)))))) (fun K hK => ?_) AllReadyH.nil)
            (refine step_appCh rfl (.tmp 90) (.tmp 94) rfl WX.heap.size 0 _ [] rfl (by first | exact HOA.out | exact HOB.out | exact HOC.out) ⟨g1, 0, none⟩ j c.chs.length (xs.take (j * 2)) rfl (by rw [List.length_take, HRW.out.len]; omega) (fun j u hj => HSA.out _ (by (repeat (first | (with_reducible exact Below.refl _ _) | (with_reducible assumption) | (with_reducible apply below_drewN) | (with_reducible apply Below.drew) | ((with_reducible refine Below.setCell ?_ ?_ _); rotate_left; focus (first | (simp; done) | (simp; omega) | omega)) | ((with_reducible refine Below.alloc ?_ ?_ _); rotate_left; focus (first | (simp; done) | (simp; omega) | omega))))) j u hj) (fun u hu => HRW.out.one u (List.mem_of_mem_take hu)) (by omega) (by omega) (by first | (simp; done) | (simp; omega)) ?_; intro v1 w1' o1 gr1 at1; have b1' : Below WX.heap.size WX w1' := Below.grown (by (repeat (first | (with_reducible exact Below.refl _ _) | (with_reducible assumption) | (with_reducible apply below_drewN) | (with_reducible apply Below.drew) | ((with_reducible refine Below.setCell ?_ ?_ _); rotate_left; focus (first | (simp; done) | (simp; omega) | omega)) | ((with_reducible refine Below.alloc ?_ ?_ _); rotate_left; focus (first | (simp; done) | (simp; omega) | omega))))) gr1 (by first | (simp; done) | (simp; omega)) (fun x hx => by first | exact (HOA.out.lt x hx).1 | exact (HOB.out.lt x hx).1 | exact (HOC.out.lt x hx).1); have hz1 := b1'.size; (first | have L1 : Hid (Lies2 w1' (WX.heap.size + 1) ⟨.int .i64 x.id, .slice (some ⟨gv, 0, none⟩) 1 1, rfl, rfl⟩) := lies2_grow gr1 HLB.out (fun e => by have e' := Option.some.inj (show some (WX.heap.size + 1) = some WX.heap.size from e); omega) (by first | (simp; done) | (simp; omega)) | have L1 : Hid (Lies2 w1' WX.heap.size ⟨.int .i64 x.id, .slice (some ⟨gv, 0, none⟩) 1 1, rfl, rfl⟩) := lies2_grow gr1 HLC.out (fun e => by have e' := Option.some.inj (show some WX.heap.size = some (WX.heap.size + 1) from e); omega) (by first | (simp; done) | (simp; omega)) | skip); have H1 : Hid (World.ownsRow _ _ _ _ _ _ _) := o1; have HB2 : Hid (Below WX.heap.size WX w1') := b1'; clear o1 gr1 at1 b1')
            refine hK.out _ _ ?_ ?_
            focus exact kp _ (by first | exact HB2.out | exact HB2.out.alloc (by omega) _ | (repeat (first | (with_reducible exact Below.refl _ _) | (with_reducible assumption) | (with_reducible apply below_drewN) | (with_reducible apply Below.drew) | ((with_reducible refine Below.alloc ?_ ?_ _); rotate_left; focus (first | (simp; done) | (simp; omega) | omega)))))
            clear hK K hHeld
            intro hHeld
            try simp only [Act.put, List.setIfInBounds_toArray, List.set_cons_zero, List.set_cons_succ]
            refine wpAnyH_ready (rs := [8]) (by kernel_rfl) (by simp) ?_
            refine (cons_at (i := 8) (.succ (.succ (.succ (.succ (.succ (.succ (.succ (.succ (.zero))))))))) (fun K hK => ?_) AllReadyH.nil)
            (refine step_appCh rfl (.tmp 95) (.tmp 97) rfl WX.heap.size (0 + j) v1 ([] ++ xs.take (j * 2)) rfl (by first | exact H1.out | exact H1.out.alloc _) _ 1 1 [.int .i64 x.id, .slice (some ⟨gv, 0, none⟩) 1 1] rfl rfl (by first | exact lies2_cells (f := ⟨.int .i64 x.id, .slice (some ⟨gv, 0, none⟩) 1 1, rfl, rfl⟩) (heap_alloc_new _ _) | exact lies2_cells (f := ⟨.int .i64 x.id, .slice (some ⟨gv, 0, none⟩) 1 1, rfl, rfl⟩) L1.out) (two_oneA _ rfl _ _ _) (by omega) (by omega) (by first | exact hz1 | (simp; omega)) ?_; intro v2 w2' o2 gr2 at2; have b2' : Below WX.heap.size WX w2' := Below.grown (by first | exact HB2.out | exact HB2.out.alloc hz1 _) gr2 (by first | exact hz1 | (simp; omega)) (fun x hx => (H1.out.lt x hx).1); have hz2 := b2'.size; have H2 : Hid (World.ownsRow _ _ _ _ _ _ _) := o2; have HB3 : Hid (Below WX.heap.size WX w2') := b2'; clear o2 gr2 at2 b2')
            refine hK.out _ _ ?_ ?_
            focus exact kp _ (by first | exact HB3.out | exact HB3.out.alloc (by omega) _ | (repeat (first | (with_reducible exact Below.refl _ _) | (with_reducible assumption) | (with_reducible apply below_drewN) | (with_reducible apply Below.drew) | ((with_reducible refine Below.alloc ?_ ?_ _); rotate_left; focus (first | (simp; done) | (simp; omega) | omega)))))
            clear hK K hHeld
            intro hHeld
            try simp only [Act.put, List.setIfInBounds_toArray, List.set_cons_zero, List.set_cons_succ]
            refine wpAnyH_ready (rs := [13]) (by kernel_rfl) (by simp) ?_
            refine (cons_at (i := 13) (.succ (.succ (.succ (.succ (.succ (.succ (.succ (.succ (.succ (.succ (.succ (.succ (.succ (.zero)))))))))))))) (fun K hK => ?_) AllReadyH.nil)
            (refine step_appCh rfl (.tmp 98) (.tmp 102) rfl WX.heap.size (0 + j + 1) v2 ([] ++ xs.take (j * 2) ++ [.int .i64 x.id, .slice (some ⟨gv, 0, none⟩) 1 1]) rfl H2.out ⟨g1, off5, none⟩ (c.chs.length - j) (c.chs.length - j) (xs.drop (j * 2)) rfl (by rw [List.length_drop, HRW.out.len]; omega) (fun j u hj => HSB.out _ HB3.out j u hj) (fun u hu => HRW.out.one u (List.mem_of_mem_drop hu)) (by omega) (by omega) hz2 ?_; intro v3 w3' o3 gr3 at3; have b3' : Below WX.heap.size WX w3' := Below.grown HB3.out gr3 hz2 (fun x hx => (H2.out.lt x hx).1); have hz3 := b3'.size; obtain ⟨g3, c3, hv3, hg3, _, _, _⟩ := rowForm o3 (by omega); subst hv3; have H3 : Hid (w3'.ownsRow WX.heap.size 94 2 (.slice (some ⟨g3, 0, none⟩) (c.chs.length + 1) c3) (c.chs.length + 1) (xs.take (j * 2) ++ [.int .i64 x.id, .slice (some ⟨gv, 0, none⟩) 1 1] ++ xs.drop (j * 2))) := (by have h := o3; rw [HNN.out, List.nil_append] at h; exact h); rw [HNN.out]; have HB4 : Hid (Below WX.heap.size WX w3') := b3'; have f4 := (b3'.cell (p := ⟨w.heap.size, 1, none⟩) hwX).trans r1; have f5 := (b3'.frozen (p := ⟨w.heap.size, 1, none⟩) hwX).trans rz1; clear o3 gr3 at3 b3')
            refine hK.out _ _ ?_ ?_
            focus exact kp _ (by first | exact HB4.out | exact HB4.out.alloc (by omega) _ | (repeat (first | (with_reducible exact Below.refl _ _) | (with_reducible assumption) | (with_reducible apply below_drewN) | (with_reducible apply Below.drew) | ((with_reducible refine Below.alloc ?_ ?_ _); rotate_left; focus (first | (simp; done) | (simp; omega) | omega)))))
            clear hK K hHeld
            intro hHeld
            try simp only [Act.put, List.setIfInBounds_toArray, List.set_cons_zero, List.set_cons_succ]
            refine take_at (i := 14) (v := ?_) (.succ (.succ (.succ (.succ (.succ (.succ (.succ (.succ (.succ (.succ (.succ (.succ (.succ (.succ (.zero))))))))))))))) (by kernel_rfl) (by kernel_rfl) (by kernel_rfl) (fun _ _ _ h => h) (Or.inl ⟨by rfl, ?_⟩) (by assumption) ?_
            rotate_left
            focus (intro w' hSw; (try dsimp only at hSw); go_simp; try (with_reducible rfl))
            try simp only [Act.put, List.setIfInBounds_toArray, List.set_cons_zero, List.set_cons_succ]
            refine wpAnyH_done (by kernel_rfl) ?_ _
            refine last_at (.succ (.succ (.succ (.succ (.succ (.succ (.succ (.succ (.succ (.succ (.succ (.succ (.succ (.succ (.succ (.zero)))))))))))))))) (fun K hK => ?_)
            go_simp
            refine hK.out _ _ ?_
            try go_wp2_with fail
            go_meet
            exact ⟨w3', g3, c3, H3.out, HB4.out, rfl⟩
        case rest =>
        obtain ⟨w3', g3, c3, ho3, hb3, rfl⟩ := hcut
        have M5 := HM4.out.next hb3
        have G5 := HG4.out.step hb3
        obtain ⟨mb, ml, mc0, mc1, mc2, mwr, ⟨r0, mr0⟩, ⟨r1', mr1⟩, ⟨r2, mr2⟩, my0⟩ := M5
        have hgX : WX.heap.size ≤ w3'.heap.size := hb3.size
        have hO9 := own_low (own_low (own_low (own_low ho3 (b := w.heap.size) (o := 1) (x := .slice (some ⟨g3, 0, none⟩) (c.chs.length + 1) c3) (by omega)) (b := w.heap.size + 2) (o := 0) (x := .string c.name) (by omega)) (b := w.heap.size + 2) (o := 1) (x := .slice (some ⟨g3, 0, none⟩) (c.chs.length + 1) c3) (by omega)) (b := w.heap.size + 2) (o := 2) (x := .slice (some ⟨g2, 0, none⟩) c.dfs.length cq) (by omega)
        have hB9 : Below w.heap.size w ((((w3'.setCell ⟨w.heap.size, 1, none⟩ (.slice (some ⟨g3, 0, none⟩) (c.chs.length + 1) c3)).setCell ⟨w.heap.size + 2, 0, none⟩ (.string c.name)).setCell ⟨w.heap.size + 2, 1, none⟩ (.slice (some ⟨g3, 0, none⟩) (c.chs.length + 1) c3)).setCell ⟨w.heap.size + 2, 2, none⟩ (.slice (some ⟨g2, 0, none⟩) c.dfs.length cq)) := (((mb.setCell (by simp) _).setCell (by show w.heap.size ≤ w.heap.size + 2; omega) _).setCell (by show w.heap.size ≤ w.heap.size + 2; omega) _).setCell (by show w.heap.size ≤ w.heap.size + 2; omega) _
        have G9 : V5 ((((w3'.setCell ⟨w.heap.size, 1, none⟩ (.slice (some ⟨g3, 0, none⟩) (c.chs.length + 1) c3)).setCell ⟨w.heap.size + 2, 0, none⟩ (.string c.name)).setCell ⟨w.heap.size + 2, 1, none⟩ (.slice (some ⟨g3, 0, none⟩) (c.chs.length + 1) c3)).setCell ⟨w.heap.size + 2, 2, none⟩ (.slice (some ⟨g2, 0, none⟩) c.dfs.length cq)) gv (verW t x) := ⟨by simpa [World.setCell] using G5.lt, by rw [set_other (by omega), set_other (by omega), set_other (by omega), set_other (by omega)]; exact G5.cb⟩
        have HR9 : Hid (RowCh _ (some ⟨g3, 0, none⟩) (c.chs.take j ++ ⟨x.id, [verW t x]⟩ :: c.chs.drop j)) := rowCh_ins hk HRW0.out.len hO9 (HRW0.out.next hB9).at_ G9.inVr
        have HD9 : Hid (RowDf _ (some ⟨g2, 0, none⟩) c.dfs) := (HR.out.next hB9).df
        have HB9 : Hid (Below _ _ _) := hB9
        have hFl := insF_len2 c.chs ⟨x.id, [verW t x]⟩ j hk
        have HFL : Hid (_ = _) := hFl
        clear hO9 hB9 G9 ho3 HM4 HG4 hFl
        go_wp2_with fail
        refine bodyPost_ret (v := .tuple #[.agg #[.string c.name, .slice (some ⟨g3, 0, none⟩) (c.chs.length + 1) c3, .slice (some ⟨g2, 0, none⟩) c.dfs.length cq], .int .i64 0]) (by simp [results, Tryz.results65, go_sem, *]) rfl ?_
        rw [HRS.out]
        exact ⟨HB9.out, some ⟨g3, 0, none⟩, some ⟨g2, 0, none⟩, c3, cq, by rw [HFL.out], HR9.out, HD9.out⟩
      · have e1 : decide ((j : Int) < (c.chs.length : Int)) = false := decide_eq_false (by omega)
        have e2 : decide (j < c.chs.length) = false := decide_eq_false hkn
        have hjI : ¬ (j : Int) < (c.chs.length : Int) := by omega
        have Mwr := M3
        have Vwr := V3
        have Rwr := R3
        have fzwr := fz3
        clear hjk M3 V3 R3 fz3
        go_wp2_with fail
        go_quiet (fail)
        obtain ⟨WD, hWWD⟩ : ∃ W9, W9 = wr.drewN nq := ⟨_, rfl⟩
        have hbWD : Below wr.heap.size wr WD := by rw [hWWD]; exact below_drewN (Below.refl _ _) _
        rw [← hWWD]
        have MWD := Mwr.next hbWD
        have VWD := Vwr.step hbWD
        have RWD := Rwr.next hbWD
        have fzWD : ∀ o, WD.frozen? ⟨w.heap.size, o, none⟩ = false := fun o => (hbWD.frozen (p := ⟨w.heap.size, o, none⟩) (by have := Mwr.lt; show w.heap.size < wr.heap.size; omega)).trans (fzwr o)
        have n1WD := MWD.c1
        have a1WD := MWD.wr.c1
        have hlWD := MWD.lt
        have hglWD := RWD.ch.lt
        clear hWWD hbWD Mwr Vwr Rwr fzwr
        go_wp2_with fail
        go_quiet (fail)
        obtain ⟨WE, hWWE⟩ : ∃ W9, W9 = WD.drewN nq := ⟨_, rfl⟩
        have hbWE : Below WD.heap.size WD WE := by rw [hWWE]; exact below_drewN (Below.refl _ _) _
        rw [← hWWE]
        have MWE := MWD.next hbWE
        have VWE := VWD.step hbWE
        have RWE := RWD.next hbWE
        have fzWE : ∀ o, WE.frozen? ⟨w.heap.size, o, none⟩ = false := fun o => (hbWE.frozen (p := ⟨w.heap.size, o, none⟩) (by have := MWD.lt; show w.heap.size < WD.heap.size; omega)).trans (fzWD o)
        have n1WE := MWE.c1
        have a1WE := MWE.wr.c1
        have hlWE := MWE.lt
        have hglWE := RWE.ch.lt
        clear hWWE hbWE MWD VWD RWD fzWD
        obtain ⟨p0, p1, p2, p3, p4⟩ := five VWE.cb
        have hvl := VWE.lt
        have hk := HPL.out.le
        have hb1A : Below WE.heap.size WE (WE.alloc (.cells #[.int .i64 t, .bool x.gone, .int .i64 x.doc.k, .int .i64 x.doc.n, .string x.doc.t] 96)) := (Below.refl _ _).alloc (Nat.le_refl _) _
        have hb2A : Below (WE.alloc (.cells #[.int .i64 t, .bool x.gone, .int .i64 x.doc.k, .int .i64 x.doc.n, .string x.doc.t] 96)).heap.size (WE.alloc (.cells #[.int .i64 t, .bool x.gone, .int .i64 x.doc.k, .int .i64 x.doc.n, .string x.doc.t] 96)) ((WE.alloc (.cells #[.int .i64 t, .bool x.gone, .int .i64 x.doc.k, .int .i64 x.doc.n, .string x.doc.t] 96)).alloc (.cells #[.int .i64 x.id, .slice (some ⟨WE.heap.size, 0, none⟩) 1 1] 94)) := (Below.refl _ _).alloc (Nat.le_refl _) _
        have M4 := (MWE.next hb1A).next hb2A
        have G4 : V5 ((WE.alloc (.cells #[.int .i64 t, .bool x.gone, .int .i64 x.doc.k, .int .i64 x.doc.n, .string x.doc.t] 96)).alloc (.cells #[.int .i64 x.id, .slice (some ⟨WE.heap.size, 0, none⟩) 1 1] 94)) WE.heap.size (verW t x) := (V5.new WE (verW t x)).step hb2A
        have q0 : ((WE.alloc (.cells #[.int .i64 t, .bool x.gone, .int .i64 x.doc.k, .int .i64 x.doc.n, .string x.doc.t] 96)).alloc (.cells #[.int .i64 x.id, .slice (some ⟨WE.heap.size, 0, none⟩) 1 1] 94)).cell? ⟨WE.heap.size + 1, 0, none⟩ = some (.int .i64 x.id) := by simp [go_sem]
        have q1 : ((WE.alloc (.cells #[.int .i64 t, .bool x.gone, .int .i64 x.doc.k, .int .i64 x.doc.n, .string x.doc.t] 96)).alloc (.cells #[.int .i64 x.id, .slice (some ⟨WE.heap.size, 0, none⟩) 1 1] 94)).cell? ⟨WE.heap.size + 1, 1, none⟩ = some (.slice (some ⟨WE.heap.size, 0, none⟩) 1 1) := by simp [go_sem]
        have hbx : WE.heap.size + 1 < ((WE.alloc (.cells #[.int .i64 t, .bool x.gone, .int .i64 x.doc.k, .int .i64 x.doc.n, .string x.doc.t] 96)).alloc (.cells #[.int .i64 x.id, .slice (some ⟨WE.heap.size, 0, none⟩) 1 1] 94)).heap.size := by simp
        have rz1 : ((WE.alloc (.cells #[.int .i64 t, .bool x.gone, .int .i64 x.doc.k, .int .i64 x.doc.n, .string x.doc.t] 96)).alloc (.cells #[.int .i64 x.id, .slice (some ⟨WE.heap.size, 0, none⟩) 1 1] 94)).frozen? ⟨w.heap.size, 1, none⟩ = false := ((hb1A.trans (hb2A.mono hb1A.size)).frozen (p := ⟨w.heap.size, 1, none⟩) (by show w.heap.size < WE.heap.size; omega)).trans (fzWE 1)
        clear hb1A hb2A MWE VWE RWE fzWE
        go_wp2_with fail
        generalize (WE.alloc (.cells #[.int .i64 t, .bool x.gone, .int .i64 x.doc.k, .int .i64 x.doc.n, .string x.doc.t] 96)).alloc (.cells #[.int .i64 x.id, .slice (some ⟨WE.heap.size, 0, none⟩) 1 1] 94) = WX at *
        obtain ⟨gv, hgv⟩ : ∃ gv, gv = WE.heap.size := ⟨_, rfl⟩
        obtain ⟨bx, hbxe⟩ : ∃ bx, bx = WE.heap.size + 1 := ⟨_, rfl⟩
        rw [← hbxe] at q0 q1 hbx
        rw [← hgv] at G4 q1
        have hgvw : w.heap.size + 2 < gv := by omega
        have hbxw : w.heap.size + 2 < bx := by omega
        try rw [← hbxe]
        try rw [← hgv]
        have r1 := M4.c1
        have hwX : w.heap.size < WX.heap.size := by have := M4.lt; omega
        have hgvX := G4.lt
        clear hgv hbxe hvl p0 p1 p2 p3 p4
        have HM4 : Hid (MkI _ _ _ _ _ _) := M4
        have HG4 : Hid (V5 _ _ _) := G4
        have HRW : Hid (RawC WX g1 c.chs xs) := HRW0.out.next M4.bel
        have ps1 := cutHeadC g1 0 c.chs.length c.chs.length j hk
        have ps2 := cutTailC g1 0 c.chs.length c.chs.length j hk
        obtain ⟨off5, ho5⟩ : ∃ o, o = if c.chs.length = j then 0 else 0 + j * 2 := ⟨_, rfl⟩
        rw [← ho5] at ps2
        have hadd : ∀ (o i : Nat), (⟨g1, o, none⟩ : Addr).add i = ⟨g1, o + i, none⟩ := fun o i => by unfold Addr.add; split <;> simp_all
        have HSA : Hid (∀ w', Below WX.heap.size WX w' → ∀ i u, (xs.take (j * 2))[i]? = some u → w'.cell? ((⟨g1, 0, none⟩ : Addr).add i) = some u) := fun w' hb i u hi => by
          rw [hadd, Nat.zero_add]
          refine (hb.cell (p := ⟨g1, i, none⟩) HRW.out.lt).trans (HRW.out.cells i u ?_)
          rw [List.getElem?_take] at hi
          split at hi
          · exact hi
          · cases hi
        have HSB : Hid (∀ w', Below WX.heap.size WX w' → ∀ i u, (xs.drop (j * 2))[i]? = some u → w'.cell? ((⟨g1, off5, none⟩ : Addr).add i) = some u) := fun w' hb i u hi => by
          by_cases h : c.chs.length = j
          · rw [List.drop_eq_nil_of_le (by have := HRW.out.len; omega)] at hi; simp at hi
          · rw [ho5, if_neg h, Nat.zero_add, hadd]
            refine (hb.cell (p := ⟨g1, j * 2 + i, none⟩) HRW.out.lt).trans (HRW.out.cells _ u ?_)
            rw [List.getElem?_drop] at hi; exact hi
        have OA := World.ownsRow_made (base := WX.heap.size) (size := 2) (e := 94) WX #[] 0 (Nat.le_refl _) (by unfold maxLen; omega) rfl
        have OB := OA.alloc (.cells #[.int .i64 x.id, .slice (some ⟨gv, 0, none⟩) 1 1] 94)
        have OC := World.ownsRow_made (base := WX.heap.size) (size := 2) (e := 94) (WX.alloc (.cells #[.int .i64 x.id, .slice (some ⟨gv, 0, none⟩) 1 1] 94)) #[] 0 (by simp) (by unfold maxLen; omega) rfl
        simp only [heap_size_alloc] at OC
        have HOA : Hid (World.ownsRow _ _ _ _ _ _ _) := OA
        have HOB : Hid (World.ownsRow _ _ _ _ _ _ _) := OB
        have HOC : Hid (World.ownsRow _ _ _ _ _ _ _) := OC
        have HLB : Hid (Lies2 ((WX.alloc (.cells #[] 94)).alloc (.cells #[.int .i64 x.id, .slice (some ⟨gv, 0, none⟩) 1 1] 94)) (WX.heap.size + 1) ⟨.int .i64 x.id, .slice (some ⟨gv, 0, none⟩) 1 1, rfl, rfl⟩) := (by have h := heap_alloc_new (WX.alloc (.cells #[] 94)) (.cells #[.int .i64 x.id, .slice (some ⟨gv, 0, none⟩) 1 1] 94); rw [heap_size_alloc] at h; exact h)
        have HLC : Hid (Lies2 ((WX.alloc (.cells #[.int .i64 x.id, .slice (some ⟨gv, 0, none⟩) 1 1] 94)).alloc (.cells #[] 94)) WX.heap.size ⟨.int .i64 x.id, .slice (some ⟨gv, 0, none⟩) 1 1, rfl, rfl⟩) := (by show ((WX.alloc (.cells #[.int .i64 x.id, .slice (some ⟨gv, 0, none⟩) 1 1] 94)).alloc (.cells #[] 94)).heap[WX.heap.size]? = _; rw [heap_alloc_old _ _ (by simp)]; exact heap_alloc_new _ _)
        have HNN : Hid (0 + j + 1 + (c.chs.length - j) = c.chs.length + 1) := (by omega : 0 + j + 1 + (c.chs.length - j) = c.chs.length + 1)
        clear ho5 OA OB OC hadd M4 G4
        go_cut [] (fun wx => ∃ w3' g3 c3, w3'.ownsRow WX.heap.size 94 2 (.slice (some ⟨g3, 0, none⟩) (c.chs.length + 1) c3) (c.chs.length + 1) (xs.take (j * 2) ++ [.int .i64 x.id, .slice (some ⟨gv, 0, none⟩) 1 1] ++ xs.drop (j * 2)) ∧ Below WX.heap.size WX w3' ∧ wx = w3'.setCell ⟨w.heap.size, 1, none⟩ (.slice (some ⟨g3, 0, none⟩) (c.chs.length + 1) c3))
        case first =>
          have kp : ∀ w', Below WX.heap.size WX w' → (w'.cell? ⟨w.heap.size, 1, none⟩ = some (.slice (some ⟨g1, 0, none⟩) c.chs.length c.chs.length) ∧ w'.cell? ⟨bx, 0, none⟩ = some (.int .i64 x.id) ∧ w'.cell? ⟨bx, 1, none⟩ = some (.slice (some ⟨gv, 0, none⟩) 1 1)) := fun w' b => ⟨(b.cell (p := ⟨w.heap.size, 1, none⟩) hwX).trans r1, (b.cell (p := ⟨bx, 0, none⟩) hbx).trans q0, (b.cell (p := ⟨bx, 1, none⟩) hbx).trans q1⟩
          refine wp_region_last2 (S := fun w0 => w0.cell? ⟨w.heap.size, 1, none⟩ = some (.slice (some ⟨g1, 0, none⟩) c.chs.length c.chs.length) ∧ w0.cell? ⟨bx, 0, none⟩ = some (.int .i64 x.id) ∧ w0.cell? ⟨bx, 1, none⟩ = some (.slice (some ⟨gv, 0, none⟩) 1 1)) 15 (by kernel_rfl) rfl (by kernel_rfl) (kp _ (Below.refl _ _).drew) (fun hHeld => ?_)
          simp only [List.take_succ_cons, List.take_zero]
          refine take_at (i := 1) (v := ?_) (.succ (.zero)) (by kernel_rfl) (by kernel_rfl) (by kernel_rfl) (fun _ _ _ h => h) (Or.inl ⟨by rfl, ?_⟩) (by assumption) ?_
          rotate_left
          focus (intro w' hSw; (try dsimp only at hSw); go_simp; try (with_reducible rfl))
          try simp only [Act.put, List.setIfInBounds_toArray, List.set_cons_zero, List.set_cons_succ]
          refine take_at (i := 2) (v := ?_) (.succ (.succ (.zero))) (by kernel_rfl) (by kernel_rfl) (by kernel_rfl) (fun _ _ _ h => h) (Or.inl ⟨by rfl, ?_⟩) (by assumption) ?_
          rotate_left
          focus (intro w' hSw; (try dsimp only at hSw); go_simp; try (with_reducible rfl))
          try simp only [Act.put, List.setIfInBounds_toArray, List.set_cons_zero, List.set_cons_succ]
          refine take_at (i := 3) (v := ?_) (.succ (.succ (.succ (.zero)))) (by kernel_rfl) (by kernel_rfl) (by kernel_rfl) (fun _ _ _ h => h) (Or.inl ⟨by rfl, ?_⟩) (by assumption) ?_
          rotate_left
          focus (intro w' hSw; (try dsimp only at hSw); go_simp; try (with_reducible rfl))
          try simp only [Act.put, List.setIfInBounds_toArray, List.set_cons_zero, List.set_cons_succ]
          refine take_at (i := 4) (v := ?_) (.succ (.succ (.succ (.succ (.zero))))) (by kernel_rfl) (by kernel_rfl) (by kernel_rfl) (fun _ _ _ h => h) (Or.inl ⟨by rfl, ?_⟩) (by assumption) ?_
          rotate_left
          focus (intro w' hSw; (try dsimp only at hSw); go_simp; try (with_reducible rfl))
          try simp only [Act.put, List.setIfInBounds_toArray, List.set_cons_zero, List.set_cons_succ]
          refine take_at (i := 6) (v := ?_) (.succ (.succ (.succ (.succ (.succ (.succ (.zero))))))) (by kernel_rfl) (by kernel_rfl) (by kernel_rfl) (fun _ _ _ h => h) (Or.inl ⟨by rfl, ?_⟩) (by assumption) ?_
          rotate_left
          focus (intro w' hSw; (try dsimp only at hSw); go_simp; try (with_reducible rfl))
          try simp only [Act.put, List.setIfInBounds_toArray, List.set_cons_zero, List.set_cons_succ]
          refine take_at (i := 9) (v := ?_) (.succ (.succ (.succ (.succ (.succ (.succ (.succ (.succ (.succ (.zero)))))))))) (by kernel_rfl) (by kernel_rfl) (by kernel_rfl) (fun _ _ _ h => h) (Or.inl ⟨by rfl, ?_⟩) (by assumption) ?_
          rotate_left
          focus (intro w' hSw; (try dsimp only at hSw); go_simp; try (with_reducible rfl))
          try simp only [Act.put, List.setIfInBounds_toArray, List.set_cons_zero, List.set_cons_succ]
          refine take_at (i := 10) (v := ?_) (.succ (.succ (.succ (.succ (.succ (.succ (.succ (.succ (.succ (.succ (.zero))))))))))) (by kernel_rfl) (by kernel_rfl) (by kernel_rfl) (fun _ _ _ h => h) (Or.inl ⟨by rfl, ?_⟩) (by assumption) ?_
          rotate_left
          focus (intro w' hSw; (try dsimp only at hSw); go_simp; try (with_reducible rfl))
          try simp only [Act.put, List.setIfInBounds_toArray, List.set_cons_zero, List.set_cons_succ]
          refine take_at (i := 11) (v := ?_) (.succ (.succ (.succ (.succ (.succ (.succ (.succ (.succ (.succ (.succ (.succ (.zero)))))))))))) (by kernel_rfl) (by kernel_rfl) (by kernel_rfl) (fun _ _ _ h => h) (Or.inl ⟨by rfl, ?_⟩) (by assumption) ?_
          rotate_left
          focus (intro w' hSw; (try dsimp only at hSw); go_simp; try (with_reducible rfl))
          try simp only [Act.put, List.setIfInBounds_toArray, List.set_cons_zero, List.set_cons_succ]
          refine take_at (i := 12) (v := ?_) (.succ (.succ (.succ (.succ (.succ (.succ (.succ (.succ (.succ (.succ (.succ (.succ (.zero))))))))))))) (by kernel_rfl) (by kernel_rfl) (by kernel_rfl) (fun _ _ _ h => h) (Or.inl ⟨by rfl, ?_⟩) (by assumption) ?_
          rotate_left
          focus (intro w' hSw; (try dsimp only at hSw); go_simp; try (with_reducible rfl))
          try simp only [Act.put, List.setIfInBounds_toArray, List.set_cons_zero, List.set_cons_succ]
          refine wpAnyH_ready (rs := [0, 7]) (by kernel_rfl) (by simp) ?_
          refine (cons_at (i := 0) .zero (fun K hK => ?_) (cons_at (i := 7) (.succ (.succ (.succ (.succ (.succ (.succ (.succ (.zero)))))))) (fun K hK => ?_) AllReadyH.nil))
          · go_simp
            refine hK.out _ _ ?_ ?_
            focus exact kp _ (by first | exact (Below.refl _ _) | exact (Below.refl _ _).alloc (by omega) _ | (repeat (first | (with_reducible exact Below.refl _ _) | (with_reducible assumption) | (with_reducible apply below_drewN) | (with_reducible apply Below.drew) | ((with_reducible refine Below.alloc ?_ ?_ _); rotate_left; focus (first | (simp; done) | (simp; omega) | omega)))))
            clear hK K hHeld
            intro hHeld
            try simp only [Act.put, List.setIfInBounds_toArray, List.set_cons_zero, List.set_cons_succ]
            refine wpAnyH_ready (rs := [5, 7]) (by kernel_rfl) (by simp) ?_
            refine (cons_at (i := 5) (.succ (.succ (.succ (.succ (.succ (.zero)))))) (fun K hK => ?_) (cons_at (i := 7) (.succ (.succ (.succ (.succ (.succ (.succ (.succ (.zero)))))))) (fun K hK => ?_) AllReadyH.nil))
            · (refine step_appCh rfl (.tmp 90) (.tmp 94) rfl WX.heap.size 0 _ [] rfl (by first | exact HOA.out | exact HOB.out | exact HOC.out) ⟨g1, 0, none⟩ j c.chs.length (xs.take (j * 2)) rfl (by rw [List.length_take, HRW.out.len]; omega) (fun j u hj => HSA.out _ (by (repeat (first | (with_reducible exact Below.refl _ _) | (with_reducible assumption) | (with_reducible apply below_drewN) | (with_reducible apply Below.drew) | ((with_reducible refine Below.setCell ?_ ?_ _); rotate_left; focus (first | (simp; done) | (simp; omega) | omega)) | ((with_reducible refine Below.alloc ?_ ?_ _); rotate_left; focus (first | (simp; done) | (simp; omega) | omega))))) j u hj) (fun u hu => HRW.out.one u (List.mem_of_mem_take hu)) (by omega) (by omega) (by first | (simp; done) | (simp; omega)) ?_; intro v1 w1' o1 gr1 at1; have b1' : Below WX.heap.size WX w1' := Below.grown (by (repeat (first | (with_reducible exact Below.refl _ _) | (with_reducible assumption) | (with_reducible apply below_drewN) | (with_reducible apply Below.drew) | ((with_reducible refine Below.setCell ?_ ?_ _); rotate_left; focus (first | (simp; done) | (simp; omega) | omega)) | ((with_reducible refine Below.alloc ?_ ?_ _); rotate_left; focus (first | (simp; done) | (simp; omega) | omega))))) gr1 (by first | (simp; done) | (simp; omega)) (fun x hx => by first | exact (HOA.out.lt x hx).1 | exact (HOB.out.lt x hx).1 | exact (HOC.out.lt x hx).1); have hz1 := b1'.size; (first | have L1 : Hid (Lies2 w1' (WX.heap.size + 1) ⟨.int .i64 x.id, .slice (some ⟨gv, 0, none⟩) 1 1, rfl, rfl⟩) := lies2_grow gr1 HLB.out (fun e => by have e' := Option.some.inj (show some (WX.heap.size + 1) = some WX.heap.size from e); omega) (by first | (simp; done) | (simp; omega)) | have L1 : Hid (Lies2 w1' WX.heap.size ⟨.int .i64 x.id, .slice (some ⟨gv, 0, none⟩) 1 1, rfl, rfl⟩) := lies2_grow gr1 HLC.out (fun e => by have e' := Option.some.inj (show some WX.heap.size = some (WX.heap.size + 1) from e); omega) (by first | (simp; done) | (simp; omega)) | skip); have H1 : Hid (World.ownsRow _ _ _ _ _ _ _) := o1; have HB2 : Hid (Below WX.heap.size WX w1') := b1'; clear o1 gr1 at1 b1')
              refine hK.out _ _ ?_ ?_
              focus exact kp _ (by first | exact HB2.out | exact HB2.out.alloc (by omega) _ | (repeat (first | (with_reducible exact Below.refl _ _) | (with_reducible assumption) | (with_reducible apply below_drewN) | (with_reducible apply Below.drew) | ((with_reducible refine Below.alloc ?_ ?_ _); rotate_left; focus (first | (simp; done) | (simp; omega) | omega)))))
              clear hK K hHeld
              intro hHeld
              try simp only [Act.put, List.setIfInBounds_toArray, List.set_cons_zero, List.set_cons_succ]
              refine wpAnyH_ready (rs := [7]) (by kernel_rfl) (by simp) ?_
              refine (cons_at (i := 7) (.succ (.succ (.succ (.succ (.succ (.succ (.succ (.zero)))))))) (fun K hK => ?_) AllReadyH.nil)
              go_simp
              refine hK.out _ _ ?_ ?_
              focus exact kp _ (by first | exact HB2.out | exact HB2.out.alloc (by omega) _ | (repeat (first | (with_reducible exact Below.refl _ _) | (with_reducible assumption) | (with_reducible apply below_drewN) | (with_reducible apply Below.drew) | ((with_reducible refine Below.alloc ?_ ?_ _); rotate_left; focus (first | (simp; done) | (simp; omega) | omega)))))
              clear hK K hHeld
              intro hHeld
              try simp only [Act.put, List.setIfInBounds_toArray, List.set_cons_zero, List.set_cons_succ]
              refine wpAnyH_ready (rs := [8]) (by kernel_rfl) (by simp) ?_
              refine (cons_at (i := 8) (.succ (.succ (.succ (.succ (.succ (.succ (.succ (.succ (.zero))))))))) (fun K hK => ?_) AllReadyH.nil)
              (refine step_appCh rfl (.tmp 95) (.tmp 97) rfl WX.heap.size (0 + j) v1 ([] ++ xs.take (j * 2)) rfl (by first | exact H1.out | exact H1.out.alloc _) _ 1 1 [.int .i64 x.id, .slice (some ⟨gv, 0, none⟩) 1 1] rfl rfl (by first | exact lies2_cells (f := ⟨.int .i64 x.id, .slice (some ⟨gv, 0, none⟩) 1 1, rfl, rfl⟩) (heap_alloc_new _ _) | exact lies2_cells (f := ⟨.int .i64 x.id, .slice (some ⟨gv, 0, none⟩) 1 1, rfl, rfl⟩) L1.out) (two_oneA _ rfl _ _ _) (by omega) (by omega) (by first | exact hz1 | (simp; omega)) ?_; intro v2 w2' o2 gr2 at2; have b2' : Below WX.heap.size WX w2' := Below.grown (by first | exact HB2.out | exact HB2.out.alloc hz1 _) gr2 (by first | exact hz1 | (simp; omega)) (fun x hx => (H1.out.lt x hx).1); have hz2 := b2'.size; have H2 : Hid (World.ownsRow _ _ _ _ _ _ _) := o2; have HB3 : Hid (Below WX.heap.size WX w2') := b2'; clear o2 gr2 at2 b2')
              refine hK.out _ _ ?_ ?_
              focus exact kp _ (by first | exact HB3.out | exact HB3.out.alloc (by omega) _ | (repeat (first | (with_reducible exact Below.refl _ _) | (with_reducible assumption) | (with_reducible apply below_drewN) | (with_reducible apply Below.drew) | ((with_reducible refine Below.alloc ?_ ?_ _); rotate_left; focus (first | (simp; done) | (simp; omega) | omega)))))
              clear hK K hHeld
              intro hHeld
              try simp only [Act.put, List.setIfInBounds_toArray, List.set_cons_zero, List.set_cons_succ]
              refine wpAnyH_ready (rs := [13]) (by kernel_rfl) (by simp) ?_
              refine (cons_at (i := 13) (.succ (.succ (.succ (.succ (.succ (.succ (.succ (.succ (.succ (.succ (.succ (.succ (.succ (.zero)))))))))))))) (fun K hK => ?_) AllReadyH.nil)
              (refine step_appCh rfl (.tmp 98) (.tmp 102) rfl WX.heap.size (0 + j + 1) v2 ([] ++ xs.take (j * 2) ++ [.int .i64 x.id, .slice (some ⟨gv, 0, none⟩) 1 1]) rfl H2.out ⟨g1, off5, none⟩ (c.chs.length - j) (c.chs.length - j) (xs.drop (j * 2)) rfl (by rw [List.length_drop, HRW.out.len]; omega) (fun j u hj => HSB.out _ HB3.out j u hj) (fun u hu => HRW.out.one u (List.mem_of_mem_drop hu)) (by omega) (by omega) hz2 ?_; intro v3 w3' o3 gr3 at3; have b3' : Below WX.heap.size WX w3' := Below.grown HB3.out gr3 hz2 (fun x hx => (H2.out.lt x hx).1); have hz3 := b3'.size; obtain ⟨g3, c3, hv3, hg3, _, _, _⟩ := rowForm o3 (by omega); subst hv3; have H3 : Hid (w3'.ownsRow WX.heap.size 94 2 (.slice (some ⟨g3, 0, none⟩) (c.chs.length + 1) c3) (c.chs.length + 1) (xs.take (j * 2) ++ [.int .i64 x.id, .slice (some ⟨gv, 0, none⟩) 1 1] ++ xs.drop (j * 2))) := (by have h := o3; rw [HNN.out, List.nil_append] at h; exact h); rw [HNN.out]; have HB4 : Hid (Below WX.heap.size WX w3') := b3'; have f4 := (b3'.cell (p := ⟨w.heap.size, 1, none⟩) hwX).trans r1; have f5 := (b3'.frozen (p := ⟨w.heap.size, 1, none⟩) hwX).trans rz1; clear o3 gr3 at3 b3')
              refine hK.out _ _ ?_ ?_
              focus exact kp _ (by first | exact HB4.out | exact HB4.out.alloc (by omega) _ | (repeat (first | (with_reducible exact Below.refl _ _) | (with_reducible assumption) | (with_reducible apply below_drewN) | (with_reducible apply Below.drew) | ((with_reducible refine Below.alloc ?_ ?_ _); rotate_left; focus (first | (simp; done) | (simp; omega) | omega)))))
              clear hK K hHeld
              intro hHeld
              try simp only [Act.put, List.setIfInBounds_toArray, List.set_cons_zero, List.set_cons_succ]
              refine take_at (i := 14) (v := ?_) (.succ (.succ (.succ (.succ (.succ (.succ (.succ (.succ (.succ (.succ (.succ (.succ (.succ (.succ (.zero))))))))))))))) (by kernel_rfl) (by kernel_rfl) (by kernel_rfl) (fun _ _ _ h => h) (Or.inl ⟨by rfl, ?_⟩) (by assumption) ?_
              rotate_left
              focus (intro w' hSw; (try dsimp only at hSw); go_simp; try (with_reducible rfl))
              try simp only [Act.put, List.setIfInBounds_toArray, List.set_cons_zero, List.set_cons_succ]
              refine wpAnyH_done (by kernel_rfl) ?_ _
              refine last_at (.succ (.succ (.succ (.succ (.succ (.succ (.succ (.succ (.succ (.succ (.succ (.succ (.succ (.succ (.succ (.zero)))))))))))))))) (fun K hK => ?_)
              go_simp
              refine hK.out _ _ ?_
              try go_wp2_with fail
              go_meet
              exact ⟨w3', g3, c3, H3.out, HB4.out, rfl⟩
            · go_simp
              refine hK.out _ _ ?_ ?_
              focus exact kp _ (by first | exact (Below.refl _ _) | exact (Below.refl _ _).alloc (by omega) _ | (repeat (first | (with_reducible exact Below.refl _ _) | (with_reducible assumption) | (with_reducible apply below_drewN) | (with_reducible apply Below.drew) | ((with_reducible refine Below.alloc ?_ ?_ _); rotate_left; focus (first | (simp; done) | (simp; omega) | omega)))))
              clear hK K hHeld
              intro hHeld
              try simp only [Act.put, List.setIfInBounds_toArray, List.set_cons_zero, List.set_cons_succ]
              refine wpAnyH_ready (rs := [5]) (by kernel_rfl) (by simp) ?_
              refine (cons_at (i := 5) (.succ (.succ (.succ (.succ (.succ (.zero)))))) (fun K hK => ?_) AllReadyH.nil)
              (refine step_appCh rfl (.tmp 90) (.tmp 94) rfl WX.heap.size 0 _ [] rfl (by first | exact HOA.out | exact HOB.out | exact HOC.out) ⟨g1, 0, none⟩ j c.chs.length (xs.take (j * 2)) rfl (by rw [List.length_take, HRW.out.len]; omega) (fun j u hj => HSA.out _ (by (repeat (first | (with_reducible exact Below.refl _ _) | (with_reducible assumption) | (with_reducible apply below_drewN) | (with_reducible apply Below.drew) | ((with_reducible refine Below.setCell ?_ ?_ _); rotate_left; focus (first | (simp; done) | (simp; omega) | omega)) | ((with_reducible refine Below.alloc ?_ ?_ _); rotate_left; focus (first | (simp; done) | (simp; omega) | omega))))) j u hj) (fun u hu => HRW.out.one u (List.mem_of_mem_take hu)) (by omega) (by omega) (by first | (simp; done) | (simp; omega)) ?_; intro v1 w1' o1 gr1 at1; have b1' : Below WX.heap.size WX w1' := Below.grown (by (repeat (first | (with_reducible exact Below.refl _ _) | (with_reducible assumption) | (with_reducible apply below_drewN) | (with_reducible apply Below.drew) | ((with_reducible refine Below.setCell ?_ ?_ _); rotate_left; focus (first | (simp; done) | (simp; omega) | omega)) | ((with_reducible refine Below.alloc ?_ ?_ _); rotate_left; focus (first | (simp; done) | (simp; omega) | omega))))) gr1 (by first | (simp; done) | (simp; omega)) (fun x hx => by first | exact (HOA.out.lt x hx).1 | exact (HOB.out.lt x hx).1 | exact (HOC.out.lt x hx).1); have hz1 := b1'.size; (first | have L1 : Hid (Lies2 w1' (WX.heap.size + 1) ⟨.int .i64 x.id, .slice (some ⟨gv, 0, none⟩) 1 1, rfl, rfl⟩) := lies2_grow gr1 HLB.out (fun e => by have e' := Option.some.inj (show some (WX.heap.size + 1) = some WX.heap.size from e); omega) (by first | (simp; done) | (simp; omega)) | have L1 : Hid (Lies2 w1' WX.heap.size ⟨.int .i64 x.id, .slice (some ⟨gv, 0, none⟩) 1 1, rfl, rfl⟩) := lies2_grow gr1 HLC.out (fun e => by have e' := Option.some.inj (show some WX.heap.size = some (WX.heap.size + 1) from e); omega) (by first | (simp; done) | (simp; omega)) | skip); have H1 : Hid (World.ownsRow _ _ _ _ _ _ _) := o1; have HB2 : Hid (Below WX.heap.size WX w1') := b1'; clear o1 gr1 at1 b1')
              refine hK.out _ _ ?_ ?_
              focus exact kp _ (by first | exact HB2.out | exact HB2.out.alloc (by omega) _ | (repeat (first | (with_reducible exact Below.refl _ _) | (with_reducible assumption) | (with_reducible apply below_drewN) | (with_reducible apply Below.drew) | ((with_reducible refine Below.alloc ?_ ?_ _); rotate_left; focus (first | (simp; done) | (simp; omega) | omega)))))
              clear hK K hHeld
              intro hHeld
              try simp only [Act.put, List.setIfInBounds_toArray, List.set_cons_zero, List.set_cons_succ]
              refine wpAnyH_ready (rs := [8]) (by kernel_rfl) (by simp) ?_
              refine (cons_at (i := 8) (.succ (.succ (.succ (.succ (.succ (.succ (.succ (.succ (.zero))))))))) (fun K hK => ?_) AllReadyH.nil)
              (refine step_appCh rfl (.tmp 95) (.tmp 97) rfl WX.heap.size (0 + j) v1 ([] ++ xs.take (j * 2)) rfl (by first | exact H1.out | exact H1.out.alloc _) _ 1 1 [.int .i64 x.id, .slice (some ⟨gv, 0, none⟩) 1 1] rfl rfl (by first | exact lies2_cells (f := ⟨.int .i64 x.id, .slice (some ⟨gv, 0, none⟩) 1 1, rfl, rfl⟩) (heap_alloc_new _ _) | exact lies2_cells (f := ⟨.int .i64 x.id, .slice (some ⟨gv, 0, none⟩) 1 1, rfl, rfl⟩) L1.out) (two_oneA _ rfl _ _ _) (by omega) (by omega) (by first | exact hz1 | (simp; omega)) ?_; intro v2 w2' o2 gr2 at2; have b2' : Below WX.heap.size WX w2' := Below.grown (by first | exact HB2.out | exact HB2.out.alloc hz1 _) gr2 (by first | exact hz1 | (simp; omega)) (fun x hx => (H1.out.lt x hx).1); have hz2 := b2'.size; have H2 : Hid (World.ownsRow _ _ _ _ _ _ _) := o2; have HB3 : Hid (Below WX.heap.size WX w2') := b2'; clear o2 gr2 at2 b2')
              refine hK.out _ _ ?_ ?_
              focus exact kp _ (by first | exact HB3.out | exact HB3.out.alloc (by omega) _ | (repeat (first | (with_reducible exact Below.refl _ _) | (with_reducible assumption) | (with_reducible apply below_drewN) | (with_reducible apply Below.drew) | ((with_reducible refine Below.alloc ?_ ?_ _); rotate_left; focus (first | (simp; done) | (simp; omega) | omega)))))
              clear hK K hHeld
              intro hHeld
              try simp only [Act.put, List.setIfInBounds_toArray, List.set_cons_zero, List.set_cons_succ]
              refine wpAnyH_ready (rs := [13]) (by kernel_rfl) (by simp) ?_
              refine (cons_at (i := 13) (.succ (.succ (.succ (.succ (.succ (.succ (.succ (.succ (.succ (.succ (.succ (.succ (.succ (.zero)))))))))))))) (fun K hK => ?_) AllReadyH.nil)
              (refine step_appCh rfl (.tmp 98) (.tmp 102) rfl WX.heap.size (0 + j + 1) v2 ([] ++ xs.take (j * 2) ++ [.int .i64 x.id, .slice (some ⟨gv, 0, none⟩) 1 1]) rfl H2.out ⟨g1, off5, none⟩ (c.chs.length - j) (c.chs.length - j) (xs.drop (j * 2)) rfl (by rw [List.length_drop, HRW.out.len]; omega) (fun j u hj => HSB.out _ HB3.out j u hj) (fun u hu => HRW.out.one u (List.mem_of_mem_drop hu)) (by omega) (by omega) hz2 ?_; intro v3 w3' o3 gr3 at3; have b3' : Below WX.heap.size WX w3' := Below.grown HB3.out gr3 hz2 (fun x hx => (H2.out.lt x hx).1); have hz3 := b3'.size; obtain ⟨g3, c3, hv3, hg3, _, _, _⟩ := rowForm o3 (by omega); subst hv3; have H3 : Hid (w3'.ownsRow WX.heap.size 94 2 (.slice (some ⟨g3, 0, none⟩) (c.chs.length + 1) c3) (c.chs.length + 1) (xs.take (j * 2) ++ [.int .i64 x.id, .slice (some ⟨gv, 0, none⟩) 1 1] ++ xs.drop (j * 2))) := (by have h := o3; rw [HNN.out, List.nil_append] at h; exact h); rw [HNN.out]; have HB4 : Hid (Below WX.heap.size WX w3') := b3'; have f4 := (b3'.cell (p := ⟨w.heap.size, 1, none⟩) hwX).trans r1; have f5 := (b3'.frozen (p := ⟨w.heap.size, 1, none⟩) hwX).trans rz1; clear o3 gr3 at3 b3')
              refine hK.out _ _ ?_ ?_
              focus exact kp _ (by first | exact HB4.out | exact HB4.out.alloc (by omega) _ | (repeat (first | (with_reducible exact Below.refl _ _) | (with_reducible assumption) | (with_reducible apply below_drewN) | (with_reducible apply Below.drew) | ((with_reducible refine Below.alloc ?_ ?_ _); rotate_left; focus (first | (simp; done) | (simp; omega) | omega)))))
              clear hK K hHeld
              intro hHeld
              try simp only [Act.put, List.setIfInBounds_toArray, List.set_cons_zero, List.set_cons_succ]
              refine take_at (i := 14) (v := ?_) (.succ (.succ (.succ (.succ (.succ (.succ (.succ (.succ (.succ (.succ (.succ (.succ (.succ (.succ (.zero))))))))))))))) (by kernel_rfl) (by kernel_rfl) (by kernel_rfl) (fun _ _ _ h => h) (Or.inl ⟨by rfl, ?_⟩) (by assumption) ?_
              rotate_left
              focus (intro w' hSw; (try dsimp only at hSw); go_simp; try (with_reducible rfl))
              try simp only [Act.put, List.setIfInBounds_toArray, List.set_cons_zero, List.set_cons_succ]
              refine wpAnyH_done (by kernel_rfl) ?_ _
              refine last_at (.succ (.succ (.succ (.succ (.succ (.succ (.succ (.succ (.succ (.succ (.succ (.succ (.succ (.succ (.succ (.zero)))))))))))))))) (fun K hK => ?_)
              go_simp
              refine hK.out _ _ ?_
              try go_wp2_with fail
              go_meet
              exact ⟨w3', g3, c3, H3.out, HB4.out, rfl⟩
          · go_simp
            refine hK.out _ _ ?_ ?_
            focus exact kp _ (by first | exact (Below.refl _ _) | exact (Below.refl _ _).alloc (by omega) _ | (repeat (first | (with_reducible exact Below.refl _ _) | (with_reducible assumption) | (with_reducible apply below_drewN) | (with_reducible apply Below.drew) | ((with_reducible refine Below.alloc ?_ ?_ _); rotate_left; focus (first | (simp; done) | (simp; omega) | omega)))))
            clear hK K hHeld
            intro hHeld
            try simp only [Act.put, List.setIfInBounds_toArray, List.set_cons_zero, List.set_cons_succ]
            refine wpAnyH_ready (rs := [0]) (by kernel_rfl) (by simp) ?_
            refine (cons_at (i := 0) .zero (fun K hK => ?_) AllReadyH.nil)
            go_simp
            refine hK.out _ _ ?_ ?_
            focus exact kp _ (by first | exact (Below.refl _ _) | exact (Below.refl _ _).alloc (by omega) _ | (repeat (first | (with_reducible exact Below.refl _ _) | (with_reducible assumption) | (with_reducible apply below_drewN) | (with_reducible apply Below.drew) | ((with_reducible refine Below.alloc ?_ ?_ _); rotate_left; focus (first | (simp; done) | (simp; omega) | omega)))))
            clear hK K hHeld
            intro hHeld
            try simp only [Act.put, List.setIfInBounds_toArray, List.set_cons_zero, List.set_cons_succ]
            refine wpAnyH_ready (rs := [5]) (by kernel_rfl) (by simp) ?_
            refine (cons_at (i := 5) (.succ (.succ (.succ (.succ (.succ (.zero)))))) (fun K hK => ?_) AllReadyH.nil)
            (refine step_appCh rfl (.tmp 90) (.tmp 94) rfl WX.heap.size 0 _ [] rfl (by first | exact HOA.out | exact HOB.out | exact HOC.out) ⟨g1, 0, none⟩ j c.chs.length (xs.take (j * 2)) rfl (by rw [List.length_take, HRW.out.len]; omega) (fun j u hj => HSA.out _ (by (repeat (first | (with_reducible exact Below.refl _ _) | (with_reducible assumption) | (with_reducible apply below_drewN) | (with_reducible apply Below.drew) | ((with_reducible refine Below.setCell ?_ ?_ _); rotate_left; focus (first | (simp; done) | (simp; omega) | omega)) | ((with_reducible refine Below.alloc ?_ ?_ _); rotate_left; focus (first | (simp; done) | (simp; omega) | omega))))) j u hj) (fun u hu => HRW.out.one u (List.mem_of_mem_take hu)) (by omega) (by omega) (by first | (simp; done) | (simp; omega)) ?_; intro v1 w1' o1 gr1 at1; have b1' : Below WX.heap.size WX w1' := Below.grown (by (repeat (first | (with_reducible exact Below.refl _ _) | (with_reducible assumption) | (with_reducible apply below_drewN) | (with_reducible apply Below.drew) | ((with_reducible refine Below.setCell ?_ ?_ _); rotate_left; focus (first | (simp; done) | (simp; omega) | omega)) | ((with_reducible refine Below.alloc ?_ ?_ _); rotate_left; focus (first | (simp; done) | (simp; omega) | omega))))) gr1 (by first | (simp; done) | (simp; omega)) (fun x hx => by first | exact (HOA.out.lt x hx).1 | exact (HOB.out.lt x hx).1 | exact (HOC.out.lt x hx).1); have hz1 := b1'.size; (first | have L1 : Hid (Lies2 w1' (WX.heap.size + 1) ⟨.int .i64 x.id, .slice (some ⟨gv, 0, none⟩) 1 1, rfl, rfl⟩) := lies2_grow gr1 HLB.out (fun e => by have e' := Option.some.inj (show some (WX.heap.size + 1) = some WX.heap.size from e); omega) (by first | (simp; done) | (simp; omega)) | have L1 : Hid (Lies2 w1' WX.heap.size ⟨.int .i64 x.id, .slice (some ⟨gv, 0, none⟩) 1 1, rfl, rfl⟩) := lies2_grow gr1 HLC.out (fun e => by have e' := Option.some.inj (show some WX.heap.size = some (WX.heap.size + 1) from e); omega) (by first | (simp; done) | (simp; omega)) | skip); have H1 : Hid (World.ownsRow _ _ _ _ _ _ _) := o1; have HB2 : Hid (Below WX.heap.size WX w1') := b1'; clear o1 gr1 at1 b1')
            refine hK.out _ _ ?_ ?_
            focus exact kp _ (by first | exact HB2.out | exact HB2.out.alloc (by omega) _ | (repeat (first | (with_reducible exact Below.refl _ _) | (with_reducible assumption) | (with_reducible apply below_drewN) | (with_reducible apply Below.drew) | ((with_reducible refine Below.alloc ?_ ?_ _); rotate_left; focus (first | (simp; done) | (simp; omega) | omega)))))
            clear hK K hHeld
            intro hHeld
            try simp only [Act.put, List.setIfInBounds_toArray, List.set_cons_zero, List.set_cons_succ]
            refine wpAnyH_ready (rs := [8]) (by kernel_rfl) (by simp) ?_
            refine (cons_at (i := 8) (.succ (.succ (.succ (.succ (.succ (.succ (.succ (.succ (.zero))))))))) (fun K hK => ?_) AllReadyH.nil)
            (refine step_appCh rfl (.tmp 95) (.tmp 97) rfl WX.heap.size (0 + j) v1 ([] ++ xs.take (j * 2)) rfl (by first | exact H1.out | exact H1.out.alloc _) _ 1 1 [.int .i64 x.id, .slice (some ⟨gv, 0, none⟩) 1 1] rfl rfl (by first | exact lies2_cells (f := ⟨.int .i64 x.id, .slice (some ⟨gv, 0, none⟩) 1 1, rfl, rfl⟩) (heap_alloc_new _ _) | exact lies2_cells (f := ⟨.int .i64 x.id, .slice (some ⟨gv, 0, none⟩) 1 1, rfl, rfl⟩) L1.out) (two_oneA _ rfl _ _ _) (by omega) (by omega) (by first | exact hz1 | (simp; omega)) ?_; intro v2 w2' o2 gr2 at2; have b2' : Below WX.heap.size WX w2' := Below.grown (by first | exact HB2.out | exact HB2.out.alloc hz1 _) gr2 (by first | exact hz1 | (simp; omega)) (fun x hx => (H1.out.lt x hx).1); have hz2 := b2'.size; have H2 : Hid (World.ownsRow _ _ _ _ _ _ _) := o2; have HB3 : Hid (Below WX.heap.size WX w2') := b2'; clear o2 gr2 at2 b2')
            refine hK.out _ _ ?_ ?_
            focus exact kp _ (by first | exact HB3.out | exact HB3.out.alloc (by omega) _ | (repeat (first | (with_reducible exact Below.refl _ _) | (with_reducible assumption) | (with_reducible apply below_drewN) | (with_reducible apply Below.drew) | ((with_reducible refine Below.alloc ?_ ?_ _); rotate_left; focus (first | (simp; done) | (simp; omega) | omega)))))
            clear hK K hHeld
            intro hHeld
            try simp only [Act.put, List.setIfInBounds_toArray, List.set_cons_zero, List.set_cons_succ]
            refine wpAnyH_ready (rs := [13]) (by kernel_rfl) (by simp) ?_
            refine (cons_at (i := 13) (.succ (.succ (.succ (.succ (.succ (.succ (.succ (.succ (.succ (.succ (.succ (.succ (.succ (.zero)))))))))))))) (fun K hK => ?_) AllReadyH.nil)
            (refine step_appCh rfl (.tmp 98) (.tmp 102) rfl WX.heap.size (0 + j + 1) v2 ([] ++ xs.take (j * 2) ++ [.int .i64 x.id, .slice (some ⟨gv, 0, none⟩) 1 1]) rfl H2.out ⟨g1, off5, none⟩ (c.chs.length - j) (c.chs.length - j) (xs.drop (j * 2)) rfl (by rw [List.length_drop, HRW.out.len]; omega) (fun j u hj => HSB.out _ HB3.out j u hj) (fun u hu => HRW.out.one u (List.mem_of_mem_drop hu)) (by omega) (by omega) hz2 ?_; intro v3 w3' o3 gr3 at3; have b3' : Below WX.heap.size WX w3' := Below.grown HB3.out gr3 hz2 (fun x hx => (H2.out.lt x hx).1); have hz3 := b3'.size; obtain ⟨g3, c3, hv3, hg3, _, _, _⟩ := rowForm o3 (by omega); subst hv3; have H3 : Hid (w3'.ownsRow WX.heap.size 94 2 (.slice (some ⟨g3, 0, none⟩) (c.chs.length + 1) c3) (c.chs.length + 1) (xs.take (j * 2) ++ [.int .i64 x.id, .slice (some ⟨gv, 0, none⟩) 1 1] ++ xs.drop (j * 2))) := (by have h := o3; rw [HNN.out, List.nil_append] at h; exact h); rw [HNN.out]; have HB4 : Hid (Below WX.heap.size WX w3') := b3'; have f4 := (b3'.cell (p := ⟨w.heap.size, 1, none⟩) hwX).trans r1; have f5 := (b3'.frozen (p := ⟨w.heap.size, 1, none⟩) hwX).trans rz1; clear o3 gr3 at3 b3')
            refine hK.out _ _ ?_ ?_
            focus exact kp _ (by first | exact HB4.out | exact HB4.out.alloc (by omega) _ | (repeat (first | (with_reducible exact Below.refl _ _) | (with_reducible assumption) | (with_reducible apply below_drewN) | (with_reducible apply Below.drew) | ((with_reducible refine Below.alloc ?_ ?_ _); rotate_left; focus (first | (simp; done) | (simp; omega) | omega)))))
            clear hK K hHeld
            intro hHeld
            try simp only [Act.put, List.setIfInBounds_toArray, List.set_cons_zero, List.set_cons_succ]
            refine take_at (i := 14) (v := ?_) (.succ (.succ (.succ (.succ (.succ (.succ (.succ (.succ (.succ (.succ (.succ (.succ (.succ (.succ (.zero))))))))))))))) (by kernel_rfl) (by kernel_rfl) (by kernel_rfl) (fun _ _ _ h => h) (Or.inl ⟨by rfl, ?_⟩) (by assumption) ?_
            rotate_left
            focus (intro w' hSw; (try dsimp only at hSw); go_simp; try (with_reducible rfl))
            try simp only [Act.put, List.setIfInBounds_toArray, List.set_cons_zero, List.set_cons_succ]
            refine wpAnyH_done (by kernel_rfl) ?_ _
            refine last_at (.succ (.succ (.succ (.succ (.succ (.succ (.succ (.succ (.succ (.succ (.succ (.succ (.succ (.succ (.succ (.zero)))))))))))))))) (fun K hK => ?_)
            go_simp
            refine hK.out _ _ ?_
            try go_wp2_with fail
            go_meet
            exact ⟨w3', g3, c3, H3.out, HB4.out, rfl⟩
        case rest =>
        obtain ⟨w3', g3, c3, ho3, hb3, rfl⟩ := hcut
        have M5 := HM4.out.next hb3
        have G5 := HG4.out.step hb3
        obtain ⟨mb, ml, mc0, mc1, mc2, mwr, ⟨r0, mr0⟩, ⟨r1', mr1⟩, ⟨r2, mr2⟩, my0⟩ := M5
        have hgX : WX.heap.size ≤ w3'.heap.size := hb3.size
        have hO9 := own_low (own_low (own_low (own_low ho3 (b := w.heap.size) (o := 1) (x := .slice (some ⟨g3, 0, none⟩) (c.chs.length + 1) c3) (by omega)) (b := w.heap.size + 2) (o := 0) (x := .string c.name) (by omega)) (b := w.heap.size + 2) (o := 1) (x := .slice (some ⟨g3, 0, none⟩) (c.chs.length + 1) c3) (by omega)) (b := w.heap.size + 2) (o := 2) (x := .slice (some ⟨g2, 0, none⟩) c.dfs.length cq) (by omega)
        have hB9 : Below w.heap.size w ((((w3'.setCell ⟨w.heap.size, 1, none⟩ (.slice (some ⟨g3, 0, none⟩) (c.chs.length + 1) c3)).setCell ⟨w.heap.size + 2, 0, none⟩ (.string c.name)).setCell ⟨w.heap.size + 2, 1, none⟩ (.slice (some ⟨g3, 0, none⟩) (c.chs.length + 1) c3)).setCell ⟨w.heap.size + 2, 2, none⟩ (.slice (some ⟨g2, 0, none⟩) c.dfs.length cq)) := (((mb.setCell (by simp) _).setCell (by show w.heap.size ≤ w.heap.size + 2; omega) _).setCell (by show w.heap.size ≤ w.heap.size + 2; omega) _).setCell (by show w.heap.size ≤ w.heap.size + 2; omega) _
        have G9 : V5 ((((w3'.setCell ⟨w.heap.size, 1, none⟩ (.slice (some ⟨g3, 0, none⟩) (c.chs.length + 1) c3)).setCell ⟨w.heap.size + 2, 0, none⟩ (.string c.name)).setCell ⟨w.heap.size + 2, 1, none⟩ (.slice (some ⟨g3, 0, none⟩) (c.chs.length + 1) c3)).setCell ⟨w.heap.size + 2, 2, none⟩ (.slice (some ⟨g2, 0, none⟩) c.dfs.length cq)) gv (verW t x) := ⟨by simpa [World.setCell] using G5.lt, by rw [set_other (by omega), set_other (by omega), set_other (by omega), set_other (by omega)]; exact G5.cb⟩
        have HR9 : Hid (RowCh _ (some ⟨g3, 0, none⟩) (c.chs.take j ++ ⟨x.id, [verW t x]⟩ :: c.chs.drop j)) := rowCh_ins hk HRW0.out.len hO9 (HRW0.out.next hB9).at_ G9.inVr
        have HD9 : Hid (RowDf _ (some ⟨g2, 0, none⟩) c.dfs) := (HR.out.next hB9).df
        have HB9 : Hid (Below _ _ _) := hB9
        have hFl := insF_len2 c.chs ⟨x.id, [verW t x]⟩ j hk
        have HFL : Hid (_ = _) := hFl
        clear hO9 hB9 G9 ho3 HM4 HG4 hFl
        go_wp2_with fail
        refine bodyPost_ret (v := .tuple #[.agg #[.string c.name, .slice (some ⟨g3, 0, none⟩) (c.chs.length + 1) c3, .slice (some ⟨g2, 0, none⟩) c.dfs.length cq], .int .i64 0]) (by simp [results, Tryz.results65, go_sem, *]) rfl ?_
        rw [HRS.out]
        exact ⟨HB9.out, some ⟨g3, 0, none⟩, some ⟨g2, 0, none⟩, c3, cq, by rw [HFL.out], HR9.out, HD9.out⟩

end Go.Proofs.YtkafanjfjplakaaGreatDoor.Co
