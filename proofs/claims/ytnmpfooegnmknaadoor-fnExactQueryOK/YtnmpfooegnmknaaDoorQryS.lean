/- Whether a query is right: what the specification answers. -/
import Derived.Test.YtnmpfooegnmknaaDoorQryI
namespace Go.Proofs.YtnmpfooegnmknaaDoor.Qr
open Go.RowKit
open Tr
set_option linter.unusedVariables false

set_option maxRecDepth 8000 in
set_option maxHeartbeats 4000000 in
theorem specQuery_any (pf ps : Option Addr) (gk cf cs ck : Nat) (q : Qry) (w : World) (hr : RdQ w pf ps gk q) (hz : SzQ q) :
    Calls Tryd.prog 5 #[.agg #[.slice pf q.f.length cf, .slice ps q.so.length cs, .int .i64 q.skip, .int .i64 q.lim, .slice (some ⟨gk, 0, none⟩) q.keep.length ck, .string q.hint]] w fun e w' => e = .returned (.bool (qryB q)) ∧ Below w.heap.size w w' := by
  have X0 := Bx6.start w (.slice pf q.f.length cf) (.slice ps q.so.length cs) (.int .i64 q.skip) (.int .i64 q.lim) (.slice (some ⟨gk, 0, none⟩) q.keep.length ck) (.string q.hint) 36
  have H1 : Hid (∀ W : World, Below w.heap.size w W → Calls _ _ _ W _) := fun W hW => specFilt_any pf cf q.f W (hr.next hW).f hz.f0 hz.f1
  have H3 : Hid (∀ W : World, Calls _ _ _ W _) := fun W => l01In_any q.skip 0 100 W
  have H4 : Hid (∀ W : World, Calls _ _ _ W _) := fun W => l01In_any q.lim 0 100 W
  have H6 : Hid (∀ W : World, Calls _ _ _ W _) := fun W => l01Name_any q.hint W (by have := hz.h0; unfold maxLen; omega)
  have HR : Hid (RdQ w pf ps gk q) := hr
  have HZ : Hid (SzQ q) := hz
  obtain ⟨Q, hQ⟩ : ∃ b, b = qryB q := ⟨_, rfl⟩
  rw [← hQ]
  unfold qryB sortB keepB hintB at hQ
  have e3 : cntB q.skip = decide (0 ≤ q.skip ∧ q.skip ≤ 100) := rfl
  have e4 : cntB q.lim = decide (0 ≤ q.lim ∧ q.lim ≤ 100) := rfl
  obtain ⟨b1, h1⟩ : ∃ b, b = filtB q.f := ⟨_, rfl⟩
  obtain ⟨b2, h2⟩ : ∃ b, b = q.so.all okPt := ⟨_, rfl⟩
  obtain ⟨b3, h3⟩ : ∃ b, b = cntB q.skip := ⟨_, rfl⟩
  obtain ⟨b4, h4⟩ : ∃ b, b = cntB q.lim := ⟨_, rfl⟩
  obtain ⟨b5, h5⟩ : ∃ b, b = q.keep.all shortB := ⟨_, rfl⟩
  obtain ⟨b6, h6⟩ : ∃ b, b = shortB q.hint := ⟨_, rfl⟩
  rw [← h1] at H1
  rw [← e3, ← h3] at H3
  rw [← e4, ← h4] at H4
  rw [← h6] at H6
  rw [← h1, ← h2, ← h3, ← h4, ← h5, ← h6] at hQ
  have HQ : Hid (Q = _) := hQ
  have HB2 : Hid (b2 = _) := h2
  have HB5 : Hid (b5 = _) := h5
  clear hr hz h1 h2 h3 h4 h5 h6 e3 e4 hQ
  go_enter Tryd.func5, Tryd.ntmps5
  go_wp2_with fail
  refine (H1.out _ X0.bel).mono ?_
  rintro e w1 ⟨rfl, hb⟩
  have X1 := X0.step hb
  have c1 := X1.c1
  have c2 := X1.c2
  have c3 := X1.c3
  have c4 := X1.c4
  have c5 := X1.c5
  have B1 := X1.bel
  clear hb X0 H1
  cases b1
  · go_wp2_with fail
    go_ret
    exact ⟨by rw [HQ.out]; rfl, B1⟩
  by_cases hs2 : q.so.length ≤ 2
  case neg =>
    have a2 : (2 : Int) < (q.so.length : Int) := by omega
    have HF : Hid (Q = false) := by
      show Q = false
      rw [HQ.out, decide_eq_false hs2]; simp
    clear hs2
    go_wp2_with fail
    go_ret
    exact ⟨by rw [HF.out] <;> rfl, B1⟩
  case pos =>
  have a2 : ¬ (2 : Int) < (q.so.length : Int) := by omega
  rw [decide_eq_true hs2] at HQ
  go_wp2_with fail
  refine (H3.out _).mono ?_
  rintro e w3 ⟨rfl, rfl⟩
  clear H3
  cases b3
  · go_wp2_with fail
    go_ret
    exact ⟨by rw [HQ.out]; simp, B1⟩
  go_wp2_with fail
  refine (H4.out _).mono ?_
  rintro e w4 ⟨rfl, rfl⟩
  clear H4
  cases b4
  · go_wp2_with fail
    go_ret
    exact ⟨by rw [HQ.out]; simp, B1⟩
  by_cases hk4 : q.keep.length ≤ 4
  case neg =>
    have a4 : (4 : Int) < (q.keep.length : Int) := by omega
    have HF : Hid (Q = false) := by
      show Q = false
      rw [HQ.out, decide_eq_false hk4]; simp
    clear hk4
    go_wp2_with fail
    go_ret
    exact ⟨by rw [HF.out] <;> rfl, B1⟩
  case pos =>
  have a4 : ¬ (4 : Int) < (q.keep.length : Int) := by omega
  rw [decide_eq_true hk4] at HQ
  have HREST : Hid (Q = (b2 && (b5 && ((q.hint.toList == em.toList) || b6)))) := by
    show Q = _
    rw [HQ.out]; simp
  clear HQ
  have HLOOP : True := trivial
  cases he : (q.hint.toList == em.toList)
  · have he2 : (q.hint.toList == []) = false := by rw [← em_list]; exact he
    have he3 : ¬ q.hint.toList = [] := by simpa using he2
    rw [he, Bool.false_or] at HREST
    go_wp2_with fail
    refine (H6.out _).mono ?_
    rintro e w6 ⟨rfl, rfl⟩
    clear H6 he he2 he3
    cases b6
    · go_wp2_with fail
      go_ret
      exact ⟨by rw [HREST.out]; simp, B1⟩
    have HRES : Hid (Q = (b2 && b5)) := by
      show Q = _
      rw [HREST.out]; simp
    clear HREST
    go_wp2_with fail
    go_loopw [3] (fun i wr => ∃ k : Nat, k ≤ q.so.length ∧ i = .int .i64 k ∧ (∀ u ∈ q.so.take k, okPt u = true) ∧ Bx6 w wr (.slice pf q.f.length cf) (.slice ps q.so.length cs) (.int .i64 q.skip) (.int .i64 q.lim) (.slice (some ⟨gk, 0, none⟩) q.keep.length ck) (.string q.hint)) (fun i _ => q.so.length - (intOf i).toNat)
    case atStart => exact ⟨0, Nat.zero_le _, rfl, fun u hu => by simp at hu, X1⟩
    case round =>
      obtain ⟨k, hk, rfl, hall, X⟩ := hrel
      have HA : Hid _ := hall
      have c1 := X.c1
      have c4 := X.c4
      have B := X.bel
      clear hall
      by_cases hlt : k < q.so.length
      · rcases (HR.out.next X.bel).s with h0 | ⟨g, rfl, RR⟩
        · rw [h0] at hlt; simp at hlt
        obtain ⟨x0, x1⟩ := RR.cells k hlt
        have hlt2 : (k : Int) < (q.so.length : Int) := by omega
        have HK0 : ∀ W : World, Calls Tryd.prog 15 #[.string q.so[k].path] W fun e w' => e = .returned (.bool (okPt q.so[k])) ∧ Below W.heap.size W w' := fun W => specPath_any q.so[k].path W (HZ.out.s1 q.so[k] (List.getElem_mem _))
        obtain ⟨bk, hbk⟩ : ∃ b, b = okPt q.so[k] := ⟨_, rfl⟩
        rw [← hbk] at HK0
        have HK : Hid _ := HK0
        have HBK : Hid (bk = _) := hbk
        clear RR HK0 hbk
        go_wp2_with fail
        refine (HK.out _).mono ?_
        rintro e w2 ⟨rfl, hb⟩
        have X2 := X.step hb
        have B2 := X2.bel
        clear hb HK
        cases bk
        · have HF : Hid (Q = false) := by
            have h : b2 = false := by
              rw [HB2.out, Bool.eq_false_iff]; intro hh
              have := List.all_eq_true.mp hh q.so[k] (List.getElem_mem _)
              rw [← HBK.out] at this; cases this
            show Q = false
            rw [HRES.out, h]; rfl
          go_wp2_with fail
          go_ret
          exact ⟨by rw [HF.out] <;> rfl, B2⟩
        · go_wp2_with fail
          go_roundw
          case rel =>
            refine ⟨k + 1, by omega, by go_num, ?_, X2⟩
            intro u hu
            rw [List.take_succ_eq_append_getElem hlt] at hu
            rcases List.mem_append.mp hu with h | h
            · exact HA.out u h
            · simp at h; subst h; exact HBK.out.symm
          case measure => simp [intOf]; omega
      · have hlt2 : ¬ (k : Int) < (q.so.length : Int) := by omega
        have h2 : b2 = true := by rw [HB2.out]; exact List.all_eq_true.mpr fun u hu => HA.out u (by rw [List.take_of_length_le (by omega)]; exact hu)
        have HR5 : Hid (Q = b5) := by show Q = _; rw [HRES.out, h2]; rfl
        clear h2
        go_wp2_with fail
        obtain ⟨wo, hwo⟩ : ∃ W, W = wr := ⟨_, rfl⟩
        rw [← hwo] at X ⊢
        clear hwo
        go_loopw [4] (fun i wr => ∃ k : Nat, k ≤ q.keep.length ∧ i = .int .i64 k ∧ (∀ u ∈ q.keep.take k, shortB u = true) ∧ wr = wo) (fun i _ => q.keep.length - (intOf i).toNat)
        case atStart => exact ⟨0, Nat.zero_le _, rfl, fun u hu => by simp at hu, rfl⟩
        case round =>
          obtain ⟨k, hk, rfl, hall, rfl⟩ := hrel
          have HA : Hid _ := hall
          have d4 := X.c4
          have D := X.bel
          clear hall
          by_cases hlt : k < q.keep.length
          · have RR := (HR.out.next X.bel).k
            have x0 := RR.cells k hlt
            rw [Nat.zero_add] at x0
            have hlt2 : (k : Int) < (q.keep.length : Int) := by omega
            have HK0 := fun W : World => l01Name_any q.keep[k] W (by have := HZ.out.k1 q.keep[k] (List.getElem_mem _); unfold maxLen; omega)
            obtain ⟨bk, hbk⟩ : ∃ b, b = shortB q.keep[k] := ⟨_, rfl⟩
            rw [← hbk] at HK0
            have HK : Hid (∀ W : World, Calls _ _ _ W _) := HK0
            have HBK : Hid (bk = _) := hbk
            clear RR HK0 hbk
            go_wp2_with fail
            refine (HK.out _).mono ?_
            rintro e w2 ⟨rfl, rfl⟩
            clear HK
            cases bk
            · have HF : Hid (Q = false) := by
                have h : b5 = false := by
                  rw [HB5.out, Bool.eq_false_iff]; intro hh
                  have := List.all_eq_true.mp hh q.keep[k] (List.getElem_mem _)
                  rw [← HBK.out] at this; cases this
                show Q = false
                rw [HR5.out, h]
              go_wp2_with fail
              go_ret
              exact ⟨by rw [HF.out] <;> rfl, D⟩
            · go_wp2_with fail
              go_roundw
              case rel =>
                refine ⟨k + 1, by omega, by go_num, ?_, trivial⟩
                intro u hu
                rw [List.take_succ_eq_append_getElem hlt] at hu
                rcases List.mem_append.mp hu with h | h
                · exact HA.out u h
                · simp at h; subst h; exact HBK.out.symm
              case measure => simp [intOf]; omega
          · have hlt2 : ¬ (k : Int) < (q.keep.length : Int) := by omega
            have h5 : b5 = true := by rw [HB5.out]; exact List.all_eq_true.mpr fun u hu => HA.out u (by rw [List.take_of_length_le (by omega)]; exact hu)
            have HF : Hid (Q = true) := by show Q = _; rw [HR5.out, h5]
            clear h5
            go_wp2_with fail
            go_ret
            exact ⟨by rw [HF.out] <;> rfl, D⟩
  · have he2 : (q.hint.toList == []) = true := by rw [← em_list]; exact he
    have he3 : q.hint.toList = [] := by simpa using he2
    rw [he, Bool.true_or] at HREST
    have HRES : Hid (Q = (b2 && b5)) := by
      show Q = _
      rw [HREST.out]; simp
    clear HREST H6
    go_wp2_with fail
    clear he he2 he3
    go_loopw [3] (fun i wr => ∃ k : Nat, k ≤ q.so.length ∧ i = .int .i64 k ∧ (∀ u ∈ q.so.take k, okPt u = true) ∧ Bx6 w wr (.slice pf q.f.length cf) (.slice ps q.so.length cs) (.int .i64 q.skip) (.int .i64 q.lim) (.slice (some ⟨gk, 0, none⟩) q.keep.length ck) (.string q.hint)) (fun i _ => q.so.length - (intOf i).toNat)
    case atStart => exact ⟨0, Nat.zero_le _, rfl, fun u hu => by simp at hu, X1⟩
    case round =>
      obtain ⟨k, hk, rfl, hall, X⟩ := hrel
      have HA : Hid _ := hall
      have c1 := X.c1
      have c4 := X.c4
      have B := X.bel
      clear hall
      by_cases hlt : k < q.so.length
      · rcases (HR.out.next X.bel).s with h0 | ⟨g, rfl, RR⟩
        · rw [h0] at hlt; simp at hlt
        obtain ⟨x0, x1⟩ := RR.cells k hlt
        have hlt2 : (k : Int) < (q.so.length : Int) := by omega
        have HK0 : ∀ W : World, Calls Tryd.prog 15 #[.string q.so[k].path] W fun e w' => e = .returned (.bool (okPt q.so[k])) ∧ Below W.heap.size W w' := fun W => specPath_any q.so[k].path W (HZ.out.s1 q.so[k] (List.getElem_mem _))
        obtain ⟨bk, hbk⟩ : ∃ b, b = okPt q.so[k] := ⟨_, rfl⟩
        rw [← hbk] at HK0
        have HK : Hid _ := HK0
        have HBK : Hid (bk = _) := hbk
        clear RR HK0 hbk
        go_wp2_with fail
        refine (HK.out _).mono ?_
        rintro e w2 ⟨rfl, hb⟩
        have X2 := X.step hb
        have B2 := X2.bel
        clear hb HK
        cases bk
        · have HF : Hid (Q = false) := by
            have h : b2 = false := by
              rw [HB2.out, Bool.eq_false_iff]; intro hh
              have := List.all_eq_true.mp hh q.so[k] (List.getElem_mem _)
              rw [← HBK.out] at this; cases this
            show Q = false
            rw [HRES.out, h]; rfl
          go_wp2_with fail
          go_ret
          exact ⟨by rw [HF.out] <;> rfl, B2⟩
        · go_wp2_with fail
          go_roundw
          case rel =>
            refine ⟨k + 1, by omega, by go_num, ?_, X2⟩
            intro u hu
            rw [List.take_succ_eq_append_getElem hlt] at hu
            rcases List.mem_append.mp hu with h | h
            · exact HA.out u h
            · simp at h; subst h; exact HBK.out.symm
          case measure => simp [intOf]; omega
      · have hlt2 : ¬ (k : Int) < (q.so.length : Int) := by omega
        have h2 : b2 = true := by rw [HB2.out]; exact List.all_eq_true.mpr fun u hu => HA.out u (by rw [List.take_of_length_le (by omega)]; exact hu)
        have HR5 : Hid (Q = b5) := by show Q = _; rw [HRES.out, h2]; rfl
        clear h2
        go_wp2_with fail
        obtain ⟨wo, hwo⟩ : ∃ W, W = wr := ⟨_, rfl⟩
        rw [← hwo] at X ⊢
        clear hwo
        go_loopw [4] (fun i wr => ∃ k : Nat, k ≤ q.keep.length ∧ i = .int .i64 k ∧ (∀ u ∈ q.keep.take k, shortB u = true) ∧ wr = wo) (fun i _ => q.keep.length - (intOf i).toNat)
        case atStart => exact ⟨0, Nat.zero_le _, rfl, fun u hu => by simp at hu, rfl⟩
        case round =>
          obtain ⟨k, hk, rfl, hall, rfl⟩ := hrel
          have HA : Hid _ := hall
          have d4 := X.c4
          have D := X.bel
          clear hall
          by_cases hlt : k < q.keep.length
          · have RR := (HR.out.next X.bel).k
            have x0 := RR.cells k hlt
            rw [Nat.zero_add] at x0
            have hlt2 : (k : Int) < (q.keep.length : Int) := by omega
            have HK0 := fun W : World => l01Name_any q.keep[k] W (by have := HZ.out.k1 q.keep[k] (List.getElem_mem _); unfold maxLen; omega)
            obtain ⟨bk, hbk⟩ : ∃ b, b = shortB q.keep[k] := ⟨_, rfl⟩
            rw [← hbk] at HK0
            have HK : Hid (∀ W : World, Calls _ _ _ W _) := HK0
            have HBK : Hid (bk = _) := hbk
            clear RR HK0 hbk
            go_wp2_with fail
            refine (HK.out _).mono ?_
            rintro e w2 ⟨rfl, rfl⟩
            clear HK
            cases bk
            · have HF : Hid (Q = false) := by
                have h : b5 = false := by
                  rw [HB5.out, Bool.eq_false_iff]; intro hh
                  have := List.all_eq_true.mp hh q.keep[k] (List.getElem_mem _)
                  rw [← HBK.out] at this; cases this
                show Q = false
                rw [HR5.out, h]
              go_wp2_with fail
              go_ret
              exact ⟨by rw [HF.out] <;> rfl, D⟩
            · go_wp2_with fail
              go_roundw
              case rel =>
                refine ⟨k + 1, by omega, by go_num, ?_, trivial⟩
                intro u hu
                rw [List.take_succ_eq_append_getElem hlt] at hu
                rcases List.mem_append.mp hu with h | h
                · exact HA.out u h
                · simp at h; subst h; exact HBK.out.symm
              case measure => simp [intOf]; omega
          · have hlt2 : ¬ (k : Int) < (q.keep.length : Int) := by omega
            have h5 : b5 = true := by rw [HB5.out]; exact List.all_eq_true.mpr fun u hu => HA.out u (by rw [List.take_of_length_le (by omega)]; exact hu)
            have HF : Hid (Q = true) := by show Q = _; rw [HR5.out, h5]
            clear h5
            go_wp2_with fail
            go_ret
            exact ⟨by rw [HF.out] <;> rfl, D⟩
end Go.Proofs.YtnmpfooegnmknaaDoor.Qr
