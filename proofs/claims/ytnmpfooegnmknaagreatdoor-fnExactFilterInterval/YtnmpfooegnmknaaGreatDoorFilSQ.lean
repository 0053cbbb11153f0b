/- What the specification answers of a filter's interval. -/
import Derived.Test.YtnmpfooegnmknaaGreatDoorFilMQ
import Derived.Deep.DeepCutAuto
import Derived.Deep.RegionHeld3
namespace Go.Proofs.YtnmpfooegnmknaaGreatDoor.Fi
open Go.RowKit
open Tr
set_option linter.unusedVariables false

set_option maxRecDepth 4000 in
set_option maxHeartbeats 2000000 in
theorem l07Clause_any (q : Option Addr) (cap : Nat) (l : List Trm) (pt : Prt) (w : World) (hr : RowT w q l) (hl : l.length ≤ 1048576) (ht : ∀ t ∈ l, okT t = true) :
    Calls Tryz.prog 123 #[.agg #[.slice q l.length cap], .agg #[.string pt.path, .bool pt.desc]] w fun e w' => e = .returned (.agg #[.string (clI pt l).lo, .string (clI pt l).hi, .bool (clI pt l).op]) ∧ Below w.heap.size w w' := by
  have X0 := CI.start w (.slice q l.length cap) pt (.string em) (.string em) (.bool true) 159 77 24
  have HR : Hid (RowT _ _ _) := hr
  have HT : Hid _ := ht
  clear hr ht
  obtain ⟨R, hR⟩ : ∃ R, R = clI pt l := ⟨_, rfl⟩
  rw [← hR]
  have HRR : Hid _ := hR
  clear hR
  go_enter Tryz.func123, Tryz.ntmps123
  go_wp2_with fail
  go_loopw [6] (fun i wr => ∃ (k : Nat) (acc : Ivl), k ≤ l.length ∧ i = .int .i64 k ∧ ((acc = ⟨em, em, true⟩ ∧ R = clI pt (l.drop k)) ∨ (acc.op = false ∧ R = acc)) ∧ CI w wr (.slice q l.length cap) pt (.string acc.lo) (.string acc.hi) (.bool acc.op)) (fun i _ => l.length - (intOf i).toNat)
  case atStart => exact ⟨0, ⟨em, em, true⟩, Nat.zero_le _, rfl, .inl ⟨rfl, HRR.out⟩, X0⟩
  case round =>
    obtain ⟨k, acc, hk, rfl, hall, X⟩ := hrel
    have c0 := X.c0
    by_cases hlt : k < l.length
    · rcases HR.out.next X.bel with h0 | ⟨g, rfl, RR⟩
      · subst h0; simp at hlt
      obtain ⟨x0, x1, x2, x3, x4⟩ := RR.cells k hlt
      have hgl := RR.lt
      have hlt2 : (k : Int) < (l.length : Int) := by omega
      have hdr := fi_drop l k hlt
      obtain ⟨t, htt⟩ : ∃ t, t = l[k] := ⟨_, rfl⟩
      rw [← htt] at x0 x1 x2 x3 x4 hdr
      have hok : okT t = true := by rw [htt]; exact HT.out _ (List.getElem_mem _)
      obtain ⟨k1, k2, k3⟩ := term_parts t.op t.p t.c hok
      have HC : Hid (∀ W : World, Calls _ _ _ W _) := fun W : World => l04Term_any t.op t.p t.c pt.desc W k1 k2 k3
      have XA := X.step ((Below.refl _ _).alloc (Nat.le_refl _) (.cells #[.int .i64 t.op, .string t.p, .int .i64 t.c.k, .int .i64 t.c.n, .string t.c.t] 34))
      have p0 := XA.p0
      have p1 := XA.p1
      clear RR htt k1 k2 k3
      cases hP : (t.p.toList == pt.path.toList)
      · have hnext : (acc = ⟨em, em, true⟩ ∧ R = clI pt (l.drop (k + 1))) ∨ (acc.op = false ∧ R = acc) := by
          rcases hall with ⟨h1, h2⟩ | h
          · exact .inl ⟨h1, by rw [h2, hdr]; exact clI_not _ _ _ (by unfold sayI; rw [hP]; rfl)⟩
          · exact .inr h
        have HN : Hid _ := hnext
        clear hall hnext hdr
        go_wp2_with fail
        go_roundw
        case rel => exact ⟨k + 1, acc, by omega, by go_num, HN.out, XA⟩
        case measure => simp [intOf]; omega
      · rcases hall with ⟨rfl, hRr⟩ | ⟨hop, hRr⟩
        · have a0 := XA.a.c0
          have a1 := XA.a.c1
          have a2 := XA.a.c2
          have hsay : sayI pt t = !(tintI t.op t.c pt.desc).op := by unfold sayI; rw [hP]; rfl
          have hca := tint_all t pt.desc hok
          obtain ⟨i, hi⟩ : ∃ i, i = tintI t.op t.c pt.desc := ⟨_, rfl⟩
          rw [← hi] at HC hsay hca
          have hnext : (i = ⟨em, em, true⟩ ∧ R = clI pt (l.drop (k + 1))) ∨ (i.op = false ∧ R = i) := by
            rcases hca with h | h
            · exact .inl ⟨h, by rw [hRr, hdr]; exact clI_not _ _ _ (by rw [hsay, h]; rfl)⟩
            · exact .inr ⟨h, by rw [hRr, hdr, clI_say _ _ _ (by rw [hsay, h]; rfl), hi]⟩
          have HN : Hid _ := hnext
          have HX : Hid (CI _ _ _ _ _ _ _) := XA
          clear hRr hnext hdr hi hsay hca
          go_wp2_with fail
          refine (HC.out _).mono ?_
          rintro e w1 ⟨rfl, hb⟩
          have X1 := HX.out.step hb
          have b0 := X1.a.c0
          have b1 := X1.a.c1
          have b2 := X1.a.c2
          have e0 := X1.a.f0
          have e1 := X1.a.f1
          have e2 := X1.a.f2
          have el := X1.a.lt
          clear hb
          go_wp2_with fail
          go_roundw
          case rel => exact ⟨k + 1, i, by omega, by go_num, HN.out, X1.set _ _ _⟩
          case measure => simp [intOf]; omega
        · obtain ⟨alo, ahi, aop⟩ := acc
          cases hop
          have a0 := XA.a.c0
          have a1 := XA.a.c1
          have a2 := XA.a.c2
          have HN : Hid (R = _) := hRr
          clear hRr hdr HC
          go_wp2_with fail
          go_roundw
          case rel => exact ⟨k + 1, ⟨alo, ahi, false⟩, by omega, by go_num, .inr ⟨rfl, HN.out⟩, XA⟩
          case measure => simp [intOf]; omega
    · have hlt2 : ¬ (k : Int) < (l.length : Int) := by omega
      have hRt : R = acc := by
        rcases hall with ⟨h1, h2⟩ | ⟨_, h⟩
        · rw [h2, List.drop_eq_nil_of_le (by omega), h1]; rfl
        · exact h
      subst hRt
      have r0 := X.r.c0
      have r1 := X.r.c1
      have r2 := X.r.c2
      have z0 := X.r.f0
      have z1 := X.r.f1
      have z2 := X.r.f2
      have zl := X.r.lt
      have hbz := X.bel
      have y0 := X.a.c0
      have y1 := X.a.c1
      have y2 := X.a.c2
      clear hall
      go_wp2_with fail
      refine bodyPost_ret (v := .agg #[.string R.lo, .string R.hi, .bool R.op]) (by simp [results, Tryz.results123, go_sem, *]) rfl ⟨rfl, ?_⟩
      (repeat (first | (with_reducible exact Below.refl _ _) | (with_reducible assumption) | (with_reducible apply below_drewN) | (with_reducible apply Below.drew) | ((with_reducible refine Below.setCell ?_ ?_ _); rotate_left; focus (first | (simp; done) | (simp; omega) | omega)) | ((with_reducible refine Below.alloc ?_ ?_ _); rotate_left; focus (first | (simp; done) | (simp; omega) | omega))))

theorem span_hi {a b : Ivl} {H : ByteArray} (h : a.op = false → H = a.hi) : (spanI a b).op = false → Lib.maxS H b.hi = (spanI a b).hi := by
  intro hs
  have h2 : (a.op || b.op) = false := hs
  have h3 : a.op = false := by cases hh : a.op <;> simp [hh] at h2 ⊢
  unfold spanI
  simp only
  rw [if_neg (by rw [h2]; simp), h h3]

set_option maxRecDepth 8000 in
set_option maxHeartbeats 8000000 in
theorem l07Filter_at (q : Option Addr) (cap : Nat) (f : List (List Trm)) (pt : Prt) (w : World) (hr : RowC w q f) (h1 : 1 ≤ f.length) (hl : f.length ≤ 1048576) (hs : ∀ l ∈ f, szC l) (ht : ∀ l ∈ f, ∀ t ∈ l, okT t = true) :
    Calls Tryz.prog 74 #[.agg #[.slice q f.length cap], .agg #[.string pt.path, .bool pt.desc]] w fun e w' => e = .returned (.agg #[.string (fiI pt f).lo, .string (if (fiI pt f).op then em else (fiI pt f).hi), .bool (fiI pt f).op]) ∧ Below w.heap.size w w' := by
  have X0 := CJ.start w (.slice q f.length cap) pt 75 77 24
  have HCC0 : ∀ (i : Nat) (hi : i < f.length) (pa : Option Addr) (ca : Nat) (W : World), RowT W pa f[i] → Calls Tryz.prog 123 #[.agg #[.slice pa f[i].length ca], .agg #[.string pt.path, .bool pt.desc]] W fun e w' => e = .returned (.agg #[.string (clI pt f[i]).lo, .string (clI pt f[i]).hi, .bool (clI pt f[i]).op]) ∧ Below W.heap.size W w' := fun i hi pa ca W hW => l07Clause_any pa ca f[i] pt W hW (hs _ (List.getElem_mem hi)).1 (ht _ (List.getElem_mem hi))
  have HCC : Hid _ := HCC0
  clear HCC0
  obtain ⟨R, hR⟩ : ∃ R, R = fiI pt f := ⟨_, rfl⟩
  rw [← hR]
  have hR0 : R = (f.drop 1).foldl (fun acc c => spanI acc (clI pt c)) (clI pt f[0]) := by
    rw [hR]; exact fiI_eq pt f h1
  have HRR : Hid (R = _) := hR0
  have HR : Hid (RowC w q f) := hr
  clear hr hs ht hR hR0
  go_enter Tryz.func74, Tryz.ntmps74
  go_wp2_with fail
  generalize ((w.alloc (.cells #[.slice q f.length cap] 75)).alloc (.cells #[.string pt.path, .bool pt.desc] 77)).alloc (.cells #[.string em, .string em, .bool false] 24) = W0 at X0 ⊢
  rcases HR.out.next X0.bel with h0 | ⟨g, rfl, RR⟩
  · subst h0; simp at h1
  obtain ⟨pa, ca, x0, hRT⟩ := RR.cells 0 h1
  have HRT : Hid (RowT _ _ _) := hRT
  have hgl := RR.lt
  have c0 := X0.c0
  have p0 := X0.p0
  have p1 := X0.p1
  have hlr := X0.r.lt
  have HC0 : Hid (∀ W : World, Below W0.heap.size W0 W → Calls _ _ _ W _) := fun W hW => HCC.out 0 h1 pa ca W (HRT.out.next hW)
  obtain ⟨i0, hi0⟩ : ∃ i, i = clI pt f[0] := ⟨_, rfl⟩
  rw [← hi0] at HC0 HRR
  obtain ⟨n0, hn0⟩ : ∃ n, n = f[0].length := ⟨_, rfl⟩
  rw [← hn0] at HC0 x0
  have hfl : 0 < f.length := h1
  have hz0 : (w.heap.size : Nat) + 3 ≤ W0.heap.size := by omega
  have HX0 : Hid (CJ _ _ _ _) := X0
  clear RR hRT HRT hi0 hn0
  go_cut [5] (fun s5 wx => ∃ bx, s5 = .pointer (some ⟨bx, 0, none⟩) ∧ CK w wx (.slice (some ⟨g, 0, none⟩) f.length cap) pt bx (.string i0.lo) (.string i0.hi) (.bool i0.op))
  case first =>
    go_region_held3 (fun w0 => w0.cell? ⟨w.heap.size, 0, none⟩ = some (.slice (some ⟨g, 0, none⟩) f.length cap) ∧ w0.cell? ⟨g, 0, none⟩ = some (.slice pa n0 ca) ∧ w0.cell? ⟨w.heap.size + 1, 0, none⟩ = some (.string pt.path) ∧ w0.cell? ⟨w.heap.size + 1, 1, none⟩ = some (.bool pt.desc)) ((refine keepJ X0 hgl x0 ?_; (repeat (first | (with_reducible exact Below.refl _ _) | (with_reducible assumption) | (with_reducible apply below_drewN) | (with_reducible apply Below.drew) | ((with_reducible refine Below.setCell ?_ ?_ _); rotate_left; focus (first | (simp; done) | (simp; omega) | omega)) | ((with_reducible refine Below.alloc ?_ ?_ _); rotate_left; focus (first | (simp; done) | (simp; omega) | omega)))))) ((go_at_call 123; refine (HC0.out _ (by (repeat (first | (with_reducible exact Below.refl _ _) | (with_reducible assumption) | (with_reducible apply below_drewN) | (with_reducible apply Below.drew) | ((with_reducible refine Below.setCell ?_ ?_ _); rotate_left; focus (first | (simp; done) | (simp; omega) | omega)) | ((with_reducible refine Below.alloc ?_ ?_ _); rotate_left; focus (first | (simp; done) | (simp; omega) | omega)))))).mono ?_; rintro e w1 ⟨rfl, hb⟩; have hB1 : Below W0.heap.size W0 w1 := (show Below W0.heap.size W0 _ by (repeat (first | (with_reducible exact Below.refl _ _) | (with_reducible assumption) | (with_reducible apply below_drewN) | (with_reducible apply Below.drew) | ((with_reducible refine Below.setCell ?_ ?_ _); rotate_left; focus (first | (simp; done) | (simp; omega) | omega)) | ((with_reducible refine Below.alloc ?_ ?_ _); rotate_left; focus (first | (simp; done) | (simp; omega) | omega))))).trans (hb.mono (by first | (simp; done) | (simp; omega) | omega)); have hzb1 := hB1.size; (try with_reducible have A1 := one3e (W := W0) hb); (try with_reducible have A1 := one3d (W := W0) hb); (try with_reducible have A1 := one3 (W := W0) hb); (try have A1l := A1.lt); (try have A1c := A1.c0); (try have A1d := A1.c1); (try have A1e := A1.c2); (try have A1f := A1.f0); (try have A1g := A1.f1); (try have A1h := A1.f2); clear hb))
    all_goals
      try go_wp2_with fail
      go_meet
      refine ⟨_, rfl, ?_⟩
      first
        | with_reducible exact CK.late (HX0.out.step hB1) _ _ _ _
        | with_reducible exact CK.early (HX0.out.step hB1) A1 hz0 _ _ _
  case rest =>
  obtain ⟨bx, rfl, X1⟩ := hcut
  go_wp2_with fail
  go_loopw [6] (fun i wr => ∃ (k : Nat) (acc : Ivl) (H : ByteArray), 1 ≤ k ∧ k ≤ f.length ∧ i = .int .i64 k ∧ R = (f.drop k).foldl (fun acc c => spanI acc (clI pt c)) acc ∧ (acc.op = false → H = acc.hi) ∧ CK w wr (.slice (some ⟨g, 0, none⟩) f.length cap) pt bx (.string acc.lo) (.string H) (.bool acc.op)) (fun i _ => f.length - (intOf i).toNat)
  case atStart => exact ⟨1, i0, i0.hi, Nat.le_refl _, h1, rfl, HRR.out, fun _ => rfl, X1⟩
  case round =>
    obtain ⟨k, acc, H, hk1, hk, rfl, hall, hH, X⟩ := hrel
    have HA : Hid (R = _) := hall
    have c0 := X.j.c0
    clear hall
    by_cases hlt : k < f.length
    · rcases HR.out.next X.j.bel with h0 | ⟨g', hg', RR⟩
      · subst h0; simp at hlt
      cases hg'
      obtain ⟨pk, ck, y0, hRT⟩ := RR.cells k hlt
      have HRT : Hid (RowT _ _ _) := hRT
      have hgk := RR.lt
      have hlt2 : (k : Int) < (f.length : Int) := by omega
      have hcons : R = (f.drop (k + 1)).foldl (fun acc c => spanI acc (clI pt c)) (spanI acc (clI pt f[k])) := HA.out.trans (by rw [fi_drop f k hlt]; rfl)
      have HK0 : Hid (∀ W : World, Below wr.heap.size wr W → Calls _ _ _ W _) := fun W hW => HCC.out k hlt pk ck W (HRT.out.next hW)
      obtain ⟨ik, hik⟩ : ∃ i, i = clI pt f[k] := ⟨_, rfl⟩
      obtain ⟨nk, hnk⟩ : ∃ n, n = f[k].length := ⟨_, rfl⟩
      rw [← hik] at HK0 hcons
      rw [← hnk] at HK0 y0
      have HN : Hid (R = _) := hcons
      have hspan : (spanI acc ik).op = false → Lib.maxS H ik.hi = (spanI acc ik).hi := span_hi hH
      have HSP : Hid _ := hspan
      have hmn := fun (W : World) ts t => Lib.run_min_strs (P := Tryz.prog) W ts t acc.lo ik.lo
      have hmx := fun (W : World) ts t => Lib.run_max_strs (P := Tryz.prog) W ts t H ik.hi
      obtain ⟨M, hM⟩ : ∃ M, M = Lib.minS acc.lo ik.lo := ⟨_, rfl⟩
      obtain ⟨N, hN⟩ : ∃ N, N = Lib.maxS H ik.hi := ⟨_, rfl⟩
      rw [← hM] at hmn
      rw [← hN] at hmx HSP
      have hspl : (spanI acc ik).lo = M := hM.symm
      have hspo : (spanI acc ik).op = (acc.op || ik.op) := rfl
      obtain ⟨sp, hsp⟩ : ∃ i, i = spanI acc ik := ⟨_, rfl⟩
      rw [← hsp] at HN HSP hspl hspo
      have HX : Hid (CK _ _ _ _ _ _ _ _) := X
      have p0 := X.j.p0
      have p1 := X.j.p1
      have hbl := X.a.lt
      have hge := X.ge
      have hjl := X.j.r.lt
      have hj0 : w.heap.size < wr.heap.size := by omega
      have n1 : ¬ bx = wr.heap.size := by omega
      have n2 : ¬ wr.heap.size = bx := by omega
      obtain ⟨alo, ahi, aop⟩ := acc
      obtain ⟨klo, khi, kop⟩ := ik
      clear RR hRT hik hnk hsp hcons hM hN hH hspan
      simp only at HX hmn hmx hspo HK0
      cases aop <;> cases kop
      all_goals
        go_wp2_with fail
        go_region_held3 (fun w0 => w0.cell? ⟨w.heap.size, 0, none⟩ = some (.slice (some ⟨g, 0, none⟩) f.length cap) ∧ w0.cell? ⟨g, k, none⟩ = some (.slice pk nk ck) ∧ w0.cell? ⟨w.heap.size + 1, 0, none⟩ = some (.string pt.path) ∧ w0.cell? ⟨w.heap.size + 1, 1, none⟩ = some (.bool pt.desc)) ((refine keepJ HX.out.j hgk y0 ?_; (repeat (first | (with_reducible exact Below.refl _ _) | (with_reducible assumption) | (with_reducible apply below_drewN) | (with_reducible apply Below.drew) | ((with_reducible refine Below.setCell ?_ ?_ _); rotate_left; focus (first | (simp; done) | (simp; omega) | omega)) | ((with_reducible refine Below.alloc ?_ ?_ _); rotate_left; focus (first | (simp; done) | (simp; omega) | omega)))))) ((go_at_call 123; refine (HK0.out _ (by (repeat (first | (with_reducible exact Below.refl _ _) | (with_reducible assumption) | (with_reducible apply below_drewN) | (with_reducible apply Below.drew) | ((with_reducible refine Below.setCell ?_ ?_ _); rotate_left; focus (first | (simp; done) | (simp; omega) | omega)) | ((with_reducible refine Below.alloc ?_ ?_ _); rotate_left; focus (first | (simp; done) | (simp; omega) | omega)))))).mono ?_; rintro e w1 ⟨rfl, hb⟩; have hB1 : Below wr.heap.size wr w1 := (show Below wr.heap.size wr _ by (repeat (first | (with_reducible exact Below.refl _ _) | (with_reducible assumption) | (with_reducible apply below_drewN) | (with_reducible apply Below.drew) | ((with_reducible refine Below.setCell ?_ ?_ _); rotate_left; focus (first | (simp; done) | (simp; omega) | omega)) | ((with_reducible refine Below.alloc ?_ ?_ _); rotate_left; focus (first | (simp; done) | (simp; omega) | omega))))).trans (hb.mono (by first | (simp; done) | (simp; omega) | omega)); have hzb1 := hB1.size; (try with_reducible have A1 := one3e (W := wr) hb); (try with_reducible have A1 := one3d (W := wr) hb); (try with_reducible have A1 := one3 (W := wr) hb); (try have A1l := A1.lt); (try have A1c := A1.c0); (try have A1d := A1.c1); (try have A1e := A1.c2); (try have A1f := A1.f0); (try have A1g := A1.f1); (try have A1h := A1.f2); have X1 := HX.out.step hB1; have hbw1 := X1.j.bel; have u0 := X1.j.c0; have u1 := X1.j.p0; have u2 := X1.j.p1; have u3 := X1.j.r.c0; have u4 := X1.j.r.c1; have u5 := X1.j.r.c2; have u6 := X1.j.r.f0; have u7 := X1.j.r.f1; have u8 := X1.j.r.f2; have u9 := X1.j.r.lt; have v0 := X1.a.c0; have v1 := X1.a.c1; have v2 := X1.a.c2; have v3 := X1.a.f0; have v4 := X1.a.f1; have v5 := X1.a.f2; have v6 := X1.a.lt; have n3 : ¬ bx = w1.heap.size := Nat.ne_of_lt v6; have n4 : ¬ w1.heap.size = bx := fun h => n3 h.symm; have HX1 : Hid (CK _ _ _ _ _ _ _ _) := X1; clear X1 hb))
        all_goals
          go_wp2_with fail
          go_roundw
          case rel =>
            refine ⟨k + 1, sp, N, by omega, by omega, by go_num, HN.out, HSP.out, ?_⟩
            rw [hspl, hspo]
            first | rw [Bool.false_or] | rw [Bool.true_or]
            repeat (first | (with_reducible exact HX1.out) | (with_reducible apply CK.s0) | (with_reducible apply CK.s1) | (with_reducible apply CK.s2) | (with_reducible apply CK.al) | ((with_reducible apply CK.oth) <;> (try omega)))
          case measure => simp [intOf]; omega
    · have hlt2 : ¬ (k : Int) < (f.length : Int) := by omega
      have hRt : R = acc := by rw [HA.out, List.drop_eq_nil_of_le (by omega)]; rfl
      have hRH : R.op = false → H = R.hi := by rw [hRt]; exact hH
      rw [← hRt] at X
      obtain ⟨Rlo, Rhi, Rop⟩ := R
      have r0 := X.j.r.c0
      have r1 := X.j.r.c1
      have r2 := X.j.r.c2
      have z0 := X.j.r.f0
      have z1 := X.j.r.f1
      have z2 := X.j.r.f2
      have zl := X.j.r.lt
      have hbz := X.j.bel
      have y0 := X.a.c0
      have y1 := X.a.c1
      have y2 := X.a.c2
      have y3 := X.a.f0
      have y4 := X.a.f1
      have y5 := X.a.f2
      have y6 := X.a.lt
      have hge := X.ge
      have m3 : bx ≠ w.heap.size + 2 := by omega
      have m4 : w.heap.size + 2 ≠ bx := by omega
      clear hRt hH X hk hk1 hlt HA
      cases Rop
      · obtain rfl : H = Rhi := hRH rfl
        clear hRH
        go_wp2_with fail
        refine bodyPost_ret (v := .agg #[.string Rlo, .string H, .bool false]) (by simp [results, Tryz.results74, go_sem, *]) rfl ⟨rfl, ?_⟩
        (repeat (first | (with_reducible exact Below.refl _ _) | (with_reducible assumption) | (with_reducible apply below_drewN) | (with_reducible apply Below.drew) | ((with_reducible refine Below.setCell ?_ ?_ _); rotate_left; focus (first | (simp; done) | (simp; omega) | omega)) | ((with_reducible refine Below.alloc ?_ ?_ _); rotate_left; focus (first | (simp; done) | (simp; omega) | omega))))
      · clear hRH
        go_wp2_with fail
        refine bodyPost_ret (v := .agg #[.string Rlo, .string em, .bool true]) (by simp [results, Tryz.results74, go_sem, *]) rfl ⟨rfl, ?_⟩
        (repeat (first | (with_reducible exact Below.refl _ _) | (with_reducible assumption) | (with_reducible apply below_drewN) | (with_reducible apply Below.drew) | ((with_reducible refine Below.setCell ?_ ?_ _); rotate_left; focus (first | (simp; done) | (simp; omega) | omega)) | ((with_reducible refine Below.alloc ?_ ?_ _); rotate_left; focus (first | (simp; done) | (simp; omega) | omega))))

end Go.Proofs.YtnmpfooegnmknaaGreatDoor.Fi

/- What the specification's FilterInterval answers. -/
namespace Go.Proofs.YtnmpfooegnmknaaGreatDoor.Fi
open Go.RowKit
open Tr
set_option linter.unusedVariables false

theorem clI_open (p : Prt) : ∀ l : List Trm, (clI p l).op = true → (clI p l).hi = em
  | [], _ => rfl
  | t :: r, h => by
    cases hs : sayI p t
    · rw [clI_not _ _ _ hs] at h ⊢; exact clI_open p r h
    · rw [clI_say _ _ _ hs] at h
      unfold sayI at hs
      rw [h] at hs; simp at hs
theorem span_open (a b : Ivl) : (spanI a b).op = true → (spanI a b).hi = em := fun h => by
  have h2 : (a.op || b.op) = true := h
  unfold spanI; simp only; rw [if_pos h2]
theorem fold_open (p : Prt) : ∀ (r : List (List Trm)) (a : Ivl), (a.op = true → a.hi = em) → (r.foldl (fun acc c => spanI acc (clI p c)) a).op = true → (r.foldl (fun acc c => spanI acc (clI p c)) a).hi = em
  | [], _, h => h
  | c :: r, a, h => fold_open p r (spanI a (clI p c)) (span_open a (clI p c))
theorem fiI_open (p : Prt) : ∀ f : List (List Trm), (fiI p f).op = true → (fiI p f).hi = em
  | [], _ => rfl
  | c :: r, h => fold_open p r (clI p c) (clI_open p c) h
theorem fiI_hi (p : Prt) (f : List (List Trm)) : (if (fiI p f).op then em else (fiI p f).hi) = (fiI p f).hi := by
  cases h : (fiI p f).op
  · rfl
  · exact (fiI_open p f h).symm

set_option maxRecDepth 4000 in
set_option maxHeartbeats 2000000 in
theorem specFiltInt_any (q : Option Addr) (cap : Nat) (f : List (List Trm)) (pt : Prt) (w : World) (hr : RowC w q f) (hl : f.length ≤ 1048576) (hs : ∀ l ∈ f, szC l) (hp : pt.path.size ≤ 1048576) :
    Calls Tryz.prog 32 #[.agg #[.slice q f.length cap], .agg #[.string pt.path, .bool pt.desc]] w fun e w' => e = .returned (.tuple #[.agg #[.string (filtI pt f).1.lo, .string (filtI pt f).1.hi, .bool (filtI pt f).1.op], .int .i64 (filtI pt f).2]) ∧ Below w.heap.size w w' := by
  have X0 := CJ.start w (.slice q f.length cap) pt 75 77 24
  have HF0 := fun (W : World) (hW : Below w.heap.size w W) => specFilt_any q cap f W (hr.next hW) hl hs
  have HP0 := fun (W : World) => specPath_any pt.path W hp
  unfold filtI
  cases hF : filtB f
  · rw [hF] at HF0
    have HF : Hid (∀ W : World, Below w.heap.size w W → Calls _ _ _ W _) := HF0
    clear hr hs HF0 HP0 hF
    simp only [Bool.false_and, Bool.false_eq_true, if_false]
    go_enter Tryz.func32, Tryz.ntmps32
    go_wp2_with fail
    refine (HF.out _ X0.bel).mono ?_
    rintro e w1 ⟨rfl, hb⟩
    obtain ⟨b, c0, p0, p1, ⟨l, r0, r1, r2, f0, f1, f2⟩⟩ := X0.step hb
    clear hb X0 HF
    go_wp2_with fail
    refine bodyPost_ret (v := .tuple #[.agg #[.string em, .string em, .bool false], .int .i64 1]) (by simp [results, Tryz.results32, go_sem, *]) rfl ⟨rfl, ?_⟩
    (repeat (first | (with_reducible exact Below.refl _ _) | (with_reducible assumption) | (with_reducible apply below_drewN) | (with_reducible apply Below.drew) | ((with_reducible refine Below.setCell ?_ ?_ _); rotate_left; focus (first | (simp; done) | (simp; omega) | omega)) | ((with_reducible refine Below.alloc ?_ ?_ _); rotate_left; focus (first | (simp; done) | (simp; omega) | omega))))
  · cases hPP : pathB pt.path
    · rw [hF] at HF0
      rw [hPP] at HP0
      have HF : Hid (∀ W : World, Below w.heap.size w W → Calls _ _ _ W _) := HF0
      have HP : Hid (∀ W : World, Calls _ _ _ W _) := HP0
      clear hr hs HF0 HP0 hF hPP
      simp only [Bool.and_false, Bool.false_eq_true, if_false]
      go_enter Tryz.func32, Tryz.ntmps32
      go_wp2_with fail
      refine (HF.out _ X0.bel).mono ?_
      rintro e w1 ⟨rfl, hb⟩
      have X1 := X0.step hb
      have p0 := X1.p0
      have p1 := X1.p1
      clear hb X0 HF
      go_wp2_with fail
      refine (HP.out _).mono ?_
      rintro e w2 ⟨rfl, hb⟩
      obtain ⟨b, c0, p0, p1, ⟨l, r0, r1, r2, f0, f1, f2⟩⟩ := X1.step hb
      clear hb X1 HP
      go_wp2_with fail
      refine bodyPost_ret (v := .tuple #[.agg #[.string em, .string em, .bool false], .int .i64 1]) (by simp [results, Tryz.results32, go_sem, *]) rfl ⟨rfl, ?_⟩
      (repeat (first | (with_reducible exact Below.refl _ _) | (with_reducible assumption) | (with_reducible apply below_drewN) | (with_reducible apply Below.drew) | ((with_reducible refine Below.setCell ?_ ?_ _); rotate_left; focus (first | (simp; done) | (simp; omega) | omega)) | ((with_reducible refine Below.alloc ?_ ?_ _); rotate_left; focus (first | (simp; done) | (simp; omega) | omega))))
    · obtain ⟨g1, g2⟩ := filt_parts hF
      have HI0 := fun (W : World) (hW : Below w.heap.size w W) => l07Filter_at q cap f pt W (hr.next hW) g1 hl hs g2
      rw [fiI_hi] at HI0
      rw [hF] at HF0
      rw [hPP] at HP0
      have HF : Hid (∀ W : World, Below w.heap.size w W → Calls _ _ _ W _) := HF0
      have HP : Hid (∀ W : World, Calls _ _ _ W _) := HP0
      have HI : Hid (∀ W : World, Below w.heap.size w W → Calls _ _ _ W _) := HI0
      clear hr hs HF0 HP0 HI0 hF hPP g2
      simp only [Bool.and_true, if_true]
      obtain ⟨R, hR⟩ : ∃ R, R = fiI pt f := ⟨_, rfl⟩
      rw [← hR] at HI ⊢
      clear hR
      go_enter Tryz.func32, Tryz.ntmps32
      go_wp2_with fail
      refine (HF.out _ X0.bel).mono ?_
      rintro e w1 ⟨rfl, hb⟩
      have X1 := X0.step hb
      have p0 := X1.p0
      have p1 := X1.p1
      clear hb X0 HF
      go_wp2_with fail
      refine (HP.out _).mono ?_
      rintro e w2 ⟨rfl, hb⟩
      have X2 := X1.step hb
      have c0 := X2.c0
      have p0 := X2.p0
      have p1 := X2.p1
      clear hb X1 HP
      go_wp2_with fail
      refine (HI.out _ X2.bel).mono ?_
      rintro e w3 ⟨rfl, hb⟩
      obtain ⟨b, c0, p0, p1, ⟨l, r0, r1, r2, f0, f1, f2⟩⟩ := X2.step hb
      clear hb X2 HI
      go_wp2_with fail
      refine bodyPost_ret (v := .tuple #[.agg #[.string R.lo, .string R.hi, .bool R.op], .int .i64 0]) (by simp [results, Tryz.results32, go_sem, *]) rfl ⟨rfl, ?_⟩
      (repeat (first | (with_reducible exact Below.refl _ _) | (with_reducible assumption) | (with_reducible apply below_drewN) | (with_reducible apply Below.drew) | ((with_reducible refine Below.setCell ?_ ?_ _); rotate_left; focus (first | (simp; done) | (simp; omega) | omega)) | ((with_reducible refine Below.alloc ?_ ?_ _); rotate_left; focus (first | (simp; done) | (simp; omega) | omega))))
end Go.Proofs.YtnmpfooegnmknaaGreatDoor.Fi
