/- What the program answers of a filter's interval. -/
import Derived.Test.YtnmpfooegnmknaaGreatDoorFilMQ
import Derived.Deep.DeepCutAuto
import Derived.Deep.RegionHeld3
namespace Go.Proofs.YtnmpfooegnmknaaGreatDoor.Fi
open Go.RowKit
open Tr
set_option linter.unusedVariables false

set_option maxRecDepth 8000 in
set_option maxHeartbeats 8000000 in
theorem filterInterval_at (q : Option Addr) (cap : Nat) (f : List (List Trm)) (pt : Prt) (w : World) (hr : RowC w q f) (h1 : 1 ≤ f.length) (hl : f.length ≤ 1048576) (hcap : f.length ≤ cap) (hs : ∀ l ∈ f, szC l) (ht : ∀ l ∈ f, ∀ t ∈ l, okT t = true) :
    Calls Tryz.prog 78 #[.agg #[.slice q f.length cap], .agg #[.string pt.path, .bool pt.desc]] w fun e w' => e = .returned (.agg #[.string (fiI pt f).lo, .string (fiI pt f).hi, .bool (fiI pt f).op]) ∧ Below w.heap.size w w' := by
  have X0 := CJ.start w (.slice q f.length cap) pt 75 77 24
  have HCC0 : ∀ (i : Nat) (hi : i < f.length) (pa : Option Addr) (ca : Nat) (W : World), RowT W pa f[i] → Calls Tryz.prog 127 #[.agg #[.slice pa f[i].length ca], .agg #[.string pt.path, .bool pt.desc]] W fun e w' => e = .returned (.agg #[.string (clI pt f[i]).lo, .string (clI pt f[i]).hi, .bool (clI pt f[i]).op]) ∧ Below W.heap.size W w' := fun i hi pa ca W hW => clauseInterval_any pa ca f[i] pt W hW (hs _ (List.getElem_mem hi)).1 (ht _ (List.getElem_mem hi)) (hs _ (List.getElem_mem hi)).2
  have HCC : Hid _ := HCC0
  clear HCC0
  obtain ⟨R, hR⟩ : ∃ R, R = fiI pt f := ⟨_, rfl⟩
  rw [← hR]
  have hR0 : R = (f.drop 1).foldl (fun acc c => spanI acc (clI pt c)) (clI pt f[0]) := by
    rw [hR]; exact fiI_eq pt f h1
  have HRR : Hid (R = _) := hR0
  have HR : Hid (RowC w q f) := hr
  clear hr hs ht hR hR0
  go_enter Tryz.func78, Tryz.ntmps78
  go_wp2_with fail
  generalize ((w.alloc (.cells #[.slice q f.length cap] 75)).alloc (.cells #[.string pt.path, .bool pt.desc] 77)).alloc (.cells #[.string em, .string em, .bool false] 24) = W0 at X0 ⊢
  rcases HR.out.next X0.bel with h0 | ⟨g, rfl, RR⟩
  · subst h0; simp at h1
  obtain ⟨pa, ca, x0, hRT⟩ := RR.cells 0 h1
  have HRT : Hid (RowT _ _ _) := hRT
  have hgl := RR.lt
  have c0 := X0.c0
  have p0 := X0.p0
  have p1 := X0.p1
  have hlr := X0.r.lt
  have HC0 : Hid (∀ W : World, Below W0.heap.size W0 W → Calls _ _ _ W _) := fun W hW => HCC.out 0 h1 pa ca W (HRT.out.next hW)
  obtain ⟨i0, hi0⟩ : ∃ i, i = clI pt f[0] := ⟨_, rfl⟩
  rw [← hi0] at HC0 HRR
  obtain ⟨n0, hn0⟩ : ∃ n, n = f[0].length := ⟨_, rfl⟩
  rw [← hn0] at HC0 x0
  have hfl : 0 < f.length := h1
  have hz0 : (w.heap.size : Nat) + 3 ≤ W0.heap.size := by omega
  have HX0 : Hid (CJ _ _ _ _) := X0
  clear RR hRT HRT hi0 hn0
  go_cut [5] (fun s5 wx => ∃ bx, s5 = .pointer (some ⟨bx, 0, none⟩) ∧ CK w wx (.slice (some ⟨g, 0, none⟩) f.length cap) pt bx (.string i0.lo) (.string i0.hi) (.bool i0.op))
  case first =>
    go_region_held3 (fun w0 => w0.cell? ⟨w.heap.size, 0, none⟩ = some (.slice (some ⟨g, 0, none⟩) f.length cap) ∧ w0.cell? ⟨g, 0, none⟩ = some (.slice pa n0 ca) ∧ w0.cell? ⟨w.heap.size + 1, 0, none⟩ = some (.string pt.path) ∧ w0.cell? ⟨w.heap.size + 1, 1, none⟩ = some (.bool pt.desc)) ((refine keepJ X0 hgl x0 ?_; (repeat (first | (with_reducible exact Below.refl _ _) | (with_reducible assumption) | (with_reducible apply below_drewN) | (with_reducible apply Below.drew) | ((with_reducible refine Below.setCell ?_ ?_ _); rotate_left; focus (first | (simp; done) | (simp; omega) | omega)) | ((with_reducible refine Below.alloc ?_ ?_ _); rotate_left; focus (first | (simp; done) | (simp; omega) | omega)))))) ((go_at_call 127; refine (HC0.out _ (by (repeat (first | (with_reducible exact Below.refl _ _) | (with_reducible assumption) | (with_reducible apply below_drewN) | (with_reducible apply Below.drew) | ((with_reducible refine Below.setCell ?_ ?_ _); rotate_left; focus (first | (simp; done) | (simp; omega) | omega)) | ((with_reducible refine Below.alloc ?_ ?_ _); rotate_left; focus (first | (simp; done) | (simp; omega) | omega)))))).mono ?_; rintro e w1 ⟨rfl, hb⟩; have hB1 : Below W0.heap.size W0 w1 := (show Below W0.heap.size W0 _ by (repeat (first | (with_reducible exact Below.refl _ _) | (with_reducible assumption) | (with_reducible apply below_drewN) | (with_reducible apply Below.drew) | ((with_reducible refine Below.setCell ?_ ?_ _); rotate_left; focus (first | (simp; done) | (simp; omega) | omega)) | ((with_reducible refine Below.alloc ?_ ?_ _); rotate_left; focus (first | (simp; done) | (simp; omega) | omega))))).trans (hb.mono (by first | (simp; done) | (simp; omega) | omega)); have hzb1 := hB1.size; (try with_reducible have A1 := one3e (W := W0) hb); (try with_reducible have A1 := one3d (W := W0) hb); (try with_reducible have A1 := one3 (W := W0) hb); (try have A1l := A1.lt); (try have A1c := A1.c0); (try have A1d := A1.c1); (try have A1e := A1.c2); (try have A1f := A1.f0); (try have A1g := A1.f1); (try have A1h := A1.f2); clear hb))
    all_goals
      try go_wp2_with fail
      go_meet
      refine ⟨_, rfl, ?_⟩
      first
        | with_reducible exact CK.late (HX0.out.step hB1) _ _ _ _
        | with_reducible exact CK.early (HX0.out.step hB1) A1 hz0 _ _ _
  case rest =>
  obtain ⟨bx, rfl, X1⟩ := hcut
  have hcu := fun W => cutTailC g f.length cap h1 W
  obtain ⟨off, hoff⟩ : ∃ o, o = if cap = 1 then 0 else 1 := ⟨_, rfl⟩
  rw [← hoff] at hcu
  have hoff2 : 1 < f.length → off = 1 := fun h => by rw [hoff, if_neg (by omega)]
  have c0 := X1.j.c0
  clear hoff
  go_wp2_with fail
  go_loopw [18] (fun i wr => ∃ (k : Nat) (acc : Ivl), k ≤ f.length - 1 ∧ i = .int .i64 k ∧ R = (f.drop (k + 1)).foldl (fun acc c => spanI acc (clI pt c)) acc ∧ CK w wr (.slice (some ⟨g, 0, none⟩) f.length cap) pt bx (.string acc.lo) (.string acc.hi) (.bool acc.op)) (fun i _ => f.length - (intOf i).toNat)
  case atStart => exact ⟨0, i0, Nat.zero_le _, rfl, HRR.out, X1⟩
  case round =>
    obtain ⟨k, acc, hk, rfl, hall, X⟩ := hrel
    have HA : Hid (R = _) := hall
    clear hall
    by_cases hlt : k + 1 < f.length
    · obtain rfl := hoff2 (by omega)
      rcases HR.out.next X.j.bel with h0 | ⟨g', hg', RR⟩
      · subst h0; simp at hlt
      cases hg'
      obtain ⟨pk, ck, y0, hRT⟩ := RR.cells (k + 1) hlt
      have HRT : Hid (RowT _ _ _) := hRT
      have hgk := RR.lt
      have hlt2 : (k : Int) < ((f.length - 1 : Nat) : Int) := by omega
      have hcons : R = (f.drop (k + 1 + 1)).foldl (fun acc c => spanI acc (clI pt c)) (spanI acc (clI pt f[k + 1])) := HA.out.trans (by rw [fi_drop f (k + 1) hlt]; rfl)
      have HK0 : Hid (∀ W : World, Below wr.heap.size wr W → Calls _ _ _ W _) := fun W hW => HCC.out (k + 1) hlt pk ck W (HRT.out.next hW)
      obtain ⟨ik, hik⟩ : ∃ i, i = clI pt f[k + 1] := ⟨_, rfl⟩
      obtain ⟨nk, hnk⟩ : ∃ n, n = f[k + 1].length := ⟨_, rfl⟩
      rw [← hik] at HK0 hcons
      rw [← hnk] at HK0 y0
      have HN : Hid (R = _) := hcons
      have y1 : wr.cell? ⟨g, 1 + k, none⟩ = some (.slice pk nk ck) := by rw [Nat.add_comm]; exact y0
      have HSP : Hid (∀ W : World, Calls _ _ _ W _) := fun W => spanOf_any acc ik W
      obtain ⟨sp, hsp⟩ : ∃ i, i = spanI acc ik := ⟨_, rfl⟩
      rw [← hsp] at HSP HN
      have hgA : Below wr.heap.size wr (wr.alloc (.cells #[.slice pk nk ck] 159)) := (Below.refl _ _).alloc (Nat.le_refl _) _
      have XA := X.step hgA
      have a0 := XA.a.c0
      have a1 := XA.a.c1
      have a2 := XA.a.c2
      have al := XA.a.lt
      have af0 := XA.a.f0
      have af1 := XA.a.f1
      have af2 := XA.a.f2
      have b0 : (wr.alloc (.cells #[.slice pk nk ck] 159)).cell? ⟨wr.heap.size, 0, none⟩ = some (.slice pk nk ck) := by simp [go_sem]
      have bl : wr.heap.size < (wr.alloc (.cells #[.slice pk nk ck] 159)).heap.size := by simp
      have q0 := XA.j.p0
      have q1 := XA.j.p1
      have HKA : Hid (∀ W : World, Below (wr.alloc (.cells #[.slice pk nk ck] 159)).heap.size (wr.alloc (.cells #[.slice pk nk ck] 159)) W → Calls _ _ _ W _) := fun W hW => HK0.out W (hgA.trans (hW.mono hgA.size))
      have HX : Hid (CK _ _ _ _ _ _ _ _) := XA
      clear RR hRT hik hnk hsp HK0 X hcons y0
      go_wp2_with fail
      generalize wr.alloc (.cells #[.slice pk nk ck] 159) = WA at XA a0 a1 a2 al af0 af1 af2 b0 bl q0 q1 HKA HX ⊢
      obtain ⟨bc, hbc⟩ : ∃ b, b = wr.heap.size := ⟨_, rfl⟩
      rw [← hbc] at b0 bl ⊢
      clear hbc
      go_region_with (first | (go_at_call 127; refine (HKA.out _ (by (repeat (first | (with_reducible exact Below.refl _ _) | (with_reducible assumption) | (with_reducible apply below_drewN) | (with_reducible apply Below.drew) | ((with_reducible refine Below.setCell ?_ ?_ _); rotate_left; focus (first | (simp; done) | (simp; omega) | omega)) | ((with_reducible refine Below.alloc ?_ ?_ _); rotate_left; focus (first | (simp; done) | (simp; omega) | omega)))))).mono ?_; rintro e w1 ⟨rfl, hb⟩; have hB1 : Below WA.heap.size WA w1 := (show Below WA.heap.size WA _ by (repeat (first | (with_reducible exact Below.refl _ _) | (with_reducible assumption) | (with_reducible apply below_drewN) | (with_reducible apply Below.drew) | ((with_reducible refine Below.setCell ?_ ?_ _); rotate_left; focus (first | (simp; done) | (simp; omega) | omega)) | ((with_reducible refine Below.alloc ?_ ?_ _); rotate_left; focus (first | (simp; done) | (simp; omega) | omega))))).trans (hb.mono (by first | (simp; done) | (simp; omega) | omega)); have a0' := (hB1.cell al).trans a0; have a1' := (hB1.cell al).trans a1; have a2' := (hB1.cell al).trans a2; clear hb) | (go_at_call 128; refine (HSP.out _).mono ?_; rintro e w2 ⟨rfl, hb⟩; have hB2 : Below WA.heap.size WA w2 := (hB1.trans ((show Below w1.heap.size w1 _ by (repeat (first | (with_reducible exact Below.refl _ _) | (with_reducible assumption) | (with_reducible apply below_drewN) | (with_reducible apply Below.drew) | ((with_reducible refine Below.setCell ?_ ?_ _); rotate_left; focus (first | (simp; done) | (simp; omega) | omega)) | ((with_reducible refine Below.alloc ?_ ?_ _); rotate_left; focus (first | (simp; done) | (simp; omega) | omega))))).mono hB1.size)).trans (hb.mono (by have := hB1.size; first | (simp; done) | (simp; omega) | omega)); have X2 := HX.out.step hB2; have d0 := X2.a.c0; have d1 := X2.a.c1; have d2 := X2.a.c2; have e0 := X2.a.f0; have e1 := X2.a.f1; have e2 := X2.a.f2; have el := X2.a.lt; clear hb))
      all_goals
        go_wp2_with fail
        go_roundw
        case rel => exact ⟨k + 1, sp, by omega, by go_num, HN.out, by have := X2.set (.string sp.lo) (.string sp.hi) (.bool sp.op); first | exact this | exact this.step ((Below.refl _ _).drew) ⟩
        case measure => simp [intOf]; omega
    · have hlt2 : ¬ (k : Int) < ((f.length - 1 : Nat) : Int) := by omega
      have hRt : R = acc := by rw [HA.out, List.drop_eq_nil_of_le (by omega)]; rfl
      subst hRt
      have r0 := X.j.r.c0
      have r1 := X.j.r.c1
      have r2 := X.j.r.c2
      have z0 := X.j.r.f0
      have z1 := X.j.r.f1
      have z2 := X.j.r.f2
      have zl := X.j.r.lt
      have hbz := X.j.bel
      have y0 := X.a.c0
      have y1 := X.a.c1
      have y2 := X.a.c2
      have hge := X.ge
      go_wp2_with fail
      refine bodyPost_ret (v := .agg #[.string R.lo, .string R.hi, .bool R.op]) (by simp [results, Tryz.results78, go_sem, *]) rfl ⟨rfl, ?_⟩
      (repeat (first | (with_reducible exact Below.refl _ _) | (with_reducible assumption) | (with_reducible apply below_drewN) | (with_reducible apply Below.drew) | ((with_reducible refine Below.setCell ?_ ?_ _); rotate_left; focus (first | (simp; done) | (simp; omega) | omega)) | ((with_reducible refine Below.alloc ?_ ?_ _); rotate_left; focus (first | (simp; done) | (simp; omega) | omega))))

set_option maxRecDepth 4000 in
set_option maxHeartbeats 2000000 in
theorem implFiltInt_any (q : Option Addr) (cap : Nat) (f : List (List Trm)) (pt : Prt) (w : World) (hr : RowC w q f) (hl : f.length ≤ 1048576) (hcap : f.length ≤ cap) (hs : ∀ l ∈ f, szC l) (hp : pt.path.size ≤ 1048576) :
    Calls Tryz.prog 35 #[.agg #[.slice q f.length cap], .agg #[.string pt.path, .bool pt.desc]] w fun e w' => e = .returned (.tuple #[.agg #[.string (filtI pt f).1.lo, .string (filtI pt f).1.hi, .bool (filtI pt f).1.op], .int .i64 (filtI pt f).2]) ∧ Below w.heap.size w w' := by
  have X0 := CJ.start w (.slice q f.length cap) pt 75 77 24
  have HF0 := fun (W : World) (hW : Below w.heap.size w W) => filterOK_any q cap f W (hr.next hW) hl hs
  have HP0 := fun (W : World) => isWrongPart_at pt.path pt.desc W hp
  unfold filtI
  cases hF : filtB f
  · rw [hF] at HF0
    have HF : Hid (∀ W : World, Below w.heap.size w W → Calls _ _ _ W _) := HF0
    clear hr hs HF0 HP0 hF
    simp only [Bool.false_and, Bool.false_eq_true, if_false]
    go_enter Tryz.func35, Tryz.ntmps35
    go_wp2_with fail
    refine (HF.out _ X0.bel).mono ?_
    rintro e w1 ⟨rfl, hb⟩
    obtain ⟨b, c0, p0, p1, ⟨l, r0, r1, r2, f0, f1, f2⟩⟩ := X0.step hb
    clear hb X0 HF
    go_wp2_with fail
    refine bodyPost_ret (v := .tuple #[.agg #[.string em, .string em, .bool false], .int .i64 1]) (by simp [results, Tryz.results35, go_sem, *]) rfl ⟨rfl, ?_⟩
    (repeat (first | (with_reducible exact Below.refl _ _) | (with_reducible assumption) | (with_reducible apply below_drewN) | (with_reducible apply Below.drew) | ((with_reducible refine Below.setCell ?_ ?_ _); rotate_left; focus (first | (simp; done) | (simp; omega) | omega)) | ((with_reducible refine Below.alloc ?_ ?_ _); rotate_left; focus (first | (simp; done) | (simp; omega) | omega))))
  · cases hPP : pathB pt.path
    · rw [hF] at HF0
      rw [hPP] at HP0
      have HF : Hid (∀ W : World, Below w.heap.size w W → Calls _ _ _ W _) := HF0
      have HP : Hid (∀ W : World, Calls _ _ _ W _) := HP0
      clear hr hs HF0 HP0 hF hPP
      simp only [Bool.and_false, Bool.false_eq_true, if_false]
      go_enter Tryz.func35, Tryz.ntmps35
      go_wp2_with fail
      refine (HF.out _ X0.bel).mono ?_
      rintro e w1 ⟨rfl, hb⟩
      have X1 := X0.step hb
      have p0 := X1.p0
      have p1 := X1.p1
      clear hb X0 HF
      go_wp2_with fail
      refine (HP.out _).mono ?_
      rintro e w2 ⟨rfl, hb⟩
      obtain ⟨b, c0, p0, p1, ⟨l, r0, r1, r2, f0, f1, f2⟩⟩ := X1.step hb
      clear hb X1 HP
      go_wp2_with fail
      refine bodyPost_ret (v := .tuple #[.agg #[.string em, .string em, .bool false], .int .i64 1]) (by simp [results, Tryz.results35, go_sem, *]) rfl ⟨rfl, ?_⟩
      (repeat (first | (with_reducible exact Below.refl _ _) | (with_reducible assumption) | (with_reducible apply below_drewN) | (with_reducible apply Below.drew) | ((with_reducible refine Below.setCell ?_ ?_ _); rotate_left; focus (first | (simp; done) | (simp; omega) | omega)) | ((with_reducible refine Below.alloc ?_ ?_ _); rotate_left; focus (first | (simp; done) | (simp; omega) | omega))))
    · obtain ⟨g1, g2⟩ := filt_parts hF
      have HI0 := fun (W : World) (hW : Below w.heap.size w W) => filterInterval_at q cap f pt W (hr.next hW) g1 hl hcap hs g2
      rw [hF] at HF0
      rw [hPP] at HP0
      have HF : Hid (∀ W : World, Below w.heap.size w W → Calls _ _ _ W _) := HF0
      have HP : Hid (∀ W : World, Calls _ _ _ W _) := HP0
      have HI : Hid (∀ W : World, Below w.heap.size w W → Calls _ _ _ W _) := HI0
      clear hr hs HF0 HP0 HI0 hF hPP g2
      simp only [Bool.and_true, if_true]
      obtain ⟨R, hR⟩ : ∃ R, R = fiI pt f := ⟨_, rfl⟩
      rw [← hR] at HI ⊢
      clear hR
      go_enter Tryz.func35, Tryz.ntmps35
      go_wp2_with fail
      refine (HF.out _ X0.bel).mono ?_
      rintro e w1 ⟨rfl, hb⟩
      have X1 := X0.step hb
      have p0 := X1.p0
      have p1 := X1.p1
      clear hb X0 HF
      go_wp2_with fail
      refine (HP.out _).mono ?_
      rintro e w2 ⟨rfl, hb⟩
      have X2 := X1.step hb
      have c0 := X2.c0
      have p0 := X2.p0
      have p1 := X2.p1
      clear hb X1 HP
      go_wp2_with fail
      refine (HI.out _ X2.bel).mono ?_
      rintro e w3 ⟨rfl, hb⟩
      obtain ⟨b, c0, p0, p1, ⟨l, r0, r1, r2, f0, f1, f2⟩⟩ := X2.step hb
      clear hb X2 HI
      go_wp2_with fail
      refine bodyPost_ret (v := .tuple #[.agg #[.string R.lo, .string R.hi, .bool R.op], .int .i64 0]) (by simp [results, Tryz.results35, go_sem, *]) rfl ⟨rfl, ?_⟩
      (repeat (first | (with_reducible exact Below.refl _ _) | (with_reducible assumption) | (with_reducible apply below_drewN) | (with_reducible apply Below.drew) | ((with_reducible refine Below.setCell ?_ ?_ _); rotate_left; focus (first | (simp; done) | (simp; omega) | omega)) | ((with_reducible refine Below.alloc ?_ ?_ _); rotate_left; focus (first | (simp; done) | (simp; omega) | omega))))
end Go.Proofs.YtnmpfooegnmknaaGreatDoor.Fi
