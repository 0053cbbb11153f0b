/- What the specification's range of a tree answers. -/
import Derived.Test.YtnmpfooegnmknaaTrD
namespace Go.Proofs.Ytnmpfooegnmknaa.Tr
open Go.RowKit
set_option linter.unusedVariables false

/-- The pages that are still to be walked at place k. -/
def tailR (f : List Pg) (iv : Ivl) (lo k : Nat) : List Pg := if k = lo then (f.drop k).take 1 ++ (f.drop (k + 1)).takeWhile (goB iv) else (f.drop k).takeWhile (goB iv)
theorem tailR_lo (f : List Pg) (iv : Ivl) : overP f iv = [] ++ tailR f iv (loP f iv) (loP f iv) := by unfold overP tailR; rw [if_pos rfl]; rfl
theorem tailR_step (f : List Pg) (iv : Ivl) (lo k : Nat) (h : k < f.length) (hl : lo ≤ k) (hg : k = lo ∨ goB iv f[k] = true) : tailR f iv lo k = [f[k]] ++ tailR f iv lo (k + 1) := by
  unfold tailR
  rw [if_neg (show ¬ k + 1 = lo by omega)]
  by_cases e : k = lo
  · rw [if_pos e, take_one f k h]
  · rw [if_neg e, over_step iv f k h, if_pos (hg.resolve_left e)]; rfl
theorem tailR_stop (f : List Pg) (iv : Ivl) (lo k : Nat) (h : k < f.length) (hl : k ≠ lo) (hg : goB iv f[k] = false) : tailR f iv lo k = [] := by
  unfold tailR
  rw [if_neg hl, over_step iv f k h, if_neg (by rw [hg]; simp)]
theorem tailR_end (f : List Pg) (iv : Ivl) (lo k : Nat) (h : f.length ≤ k) (hl : k ≠ lo) : tailR f iv lo k = [] := by
  unfold tailR
  rw [if_neg hl, List.drop_of_length_le h]; rfl
theorem int_owns {w : World} {base n : Nat} {v : Value} {xs : List Value} (h : w.ownsRow base 3 1 v n xs) : xs.length = n := by have := h.1; omega

set_option maxRecDepth 4000 in
set_option maxHeartbeats 4000000 in
theorem specRange_any (p : Option Addr) (cap : Nat) (f : List Pg) (next : Int) (iv : Ivl) (w : World) (hr : RowP w p f) (h1 : 1 ≤ f.length) (hl : f.length ≤ 60) (hs : ∀ l ∈ f, l.es.length ≤ 4) (hne : 1 < f.length → ∀ l ∈ f, 0 < l.es.length) :
    Calls Try.prog 63 #[.agg #[.slice p f.length cap, .int .i64 next], .agg #[.string iv.lo, .string iv.hi, .bool iv.op]] w fun e w' => (∃ v1 v2, e = .returned (.tuple #[v1, v2]) ∧ OwnE w' w.heap.size v1 (entsOf iv (overP f iv)) ∧ w'.ownsRow w.heap.size 3 1 v2 (overP f iv).length (intsV (numsOf (overP f iv)))) ∧ Below w.heap.size w w' := by
  obtain ⟨iE, hiE, hzE0, hzE1, hzE2⟩ := info_parts infoE
  obtain ⟨iI, hiI, hzI0, hzI1, hzI2⟩ := info_parts infoI
  have X0 := BoxTI.start w (.slice p f.length cap) next iv 37 52
  have HR : Hid (RowP _ _ _) := hr
  have HS : Hid _ := hs
  have HNE : Hid _ := hne
  have hplc := place_lt f ⟨iv.lo, -1⟩ (by omega)
  have hPL : ∀ W : World, Below w.heap.size w W → Calls Try.prog 59 #[.agg #[.slice p f.length cap, .int .i64 next], .agg #[.string iv.lo, .int .i64 (-1)]] W fun e w' => e = .returned (.int .i64 (loP f iv : Nat)) ∧ Below W.heap.size W w' := fun W hW => specPlace_any p cap f next ⟨iv.lo, -1⟩ W (hr.next hW) (by omega) h1 (fun l hm => by have := hs l hm; omega)
  have hov := tailR_lo f iv
  obtain ⟨lo, hlo⟩ : ∃ lo, lo = loP f iv := ⟨_, rfl⟩
  have hlolt : lo < f.length := by rw [hlo]; exact hplc
  rw [← hlo] at hPL hov
  have HPL : Hid (∀ W : World, Below w.heap.size w W → Calls _ _ _ W _) := hPL
  have HOV : Hid _ := hov
  clear hr hs hne hplc hPL hov hlo
  go_enter Try.func63, Try.ntmps63
  go_wp2_with fail
  have hbA : Below (w.heap.size + 2) ((w.alloc (.cells #[.slice p f.length cap, .int .i64 next] 37)).alloc (.cells #[.string iv.lo, .string iv.hi, .bool iv.op] 52)) ((((w.alloc (.cells #[.slice p f.length cap, .int .i64 next] 37)).alloc (.cells #[.string iv.lo, .string iv.hi, .bool iv.op] 52)).alloc (.cells #[] 40)).alloc (.cells #[] 3)) := ((Below.refl _ _).alloc (by simp) _).alloc (by simp) _
  have X1 := X0.belowStep hbA (Nat.le_refl _)
  have hO1 : OwnE ((((w.alloc (.cells #[.slice p f.length cap, .int .i64 next] 37)).alloc (.cells #[.string iv.lo, .string iv.hi, .bool iv.op] 52)).alloc (.cells #[] 40)).alloc (.cells #[] 3)) (w.heap.size + 2) (.slice (some ⟨w.heap.size + 1 + 1, 0, none⟩) 0 0) [] := by
    have h := World.ownsRow.alloc (World.ownsRow_made (size := 2) (base := w.heap.size + 2) (e := 40) ((w.alloc (.cells #[.slice p f.length cap, .int .i64 next] 37)).alloc (.cells #[.string iv.lo, .string iv.hi, .bool iv.op] 52)) #[] 0 (by simp) (by unfold maxLen; omega) rfl) (.cells #[] 3)
    simp at h
    exact h
  have hO2 : World.ownsRow ((((w.alloc (.cells #[.slice p f.length cap, .int .i64 next] 37)).alloc (.cells #[.string iv.lo, .string iv.hi, .bool iv.op] 52)).alloc (.cells #[] 40)).alloc (.cells #[] 3)) (w.heap.size + 2) 3 1 (.slice (some ⟨w.heap.size + 1 + 1 + 1, 0, none⟩) 0 0) 0 [] := by
    have h := World.ownsRow_made (size := 1) (base := w.heap.size + 2) (e := 3) (((w.alloc (.cells #[.slice p f.length cap, .int .i64 next] 37)).alloc (.cells #[.string iv.lo, .string iv.hi, .bool iv.op] 52)).alloc (.cells #[] 40)) #[] 0 (by simp) (by unfold maxLen; omega) rfl
    simpa using h
  generalize ((((w.alloc (.cells #[.slice p f.length cap, .int .i64 next] 37)).alloc (.cells #[.string iv.lo, .string iv.hi, .bool iv.op] 52)).alloc (.cells #[] 40)).alloc (.cells #[] 3)) = W1 at X1 hO1 hO2 ⊢
  refine (HPL.out _ X1.bel).mono ?_
  rintro e w2 ⟨rfl, hb2⟩
  have X2 := X1.step hb2
  have HO1 : Hid (OwnE _ _ _ _) := owns_below hO1 hb2
  have HO2 : Hid (World.ownsRow _ _ _ _ _ _ _) := owns_below hO2 hb2
  clear hbA X0 X1 hO1 hO2 hb2
  go_wp2_with fail
  go_loopw [6, 7, 9] (fun v1 v2 i wr => ∃ (k : Nat) (D : List Pg), lo ≤ k ∧ k ≤ f.length ∧ i = .int .i64 k ∧ D.length + lo = k ∧ (∀ q ∈ D, q ∈ f) ∧ overP f iv = D ++ tailR f iv lo k ∧ OwnE wr (w.heap.size + 2) v1 (entsOf iv D) ∧ wr.ownsRow (w.heap.size + 2) 3 1 v2 D.length (intsV (numsOf D)) ∧ BoxTI w wr (.slice p f.length cap) next iv) (fun _ _ i _ => f.length - (intOf i).toNat)
  case atStart => exact ⟨lo, [], Nat.le_refl _, Nat.le_of_lt hlolt, rfl, by simp, (fun q hq => by simp at hq), HOV.out, HO1.out, HO2.out, X2⟩
  case round =>
    obtain ⟨k, D, hlk, hk, rfl, hDl, hDf, hDo, hO1, hO2, X⟩ := hrel
    have HO1' : Hid (OwnE _ _ _ _) := hO1
    have HO2' : Hid (World.ownsRow _ _ _ _ _ _ _) := hO2
    have HDF : Hid _ := hDf
    have HDO : Hid _ := hDo
    have HDL : Hid _ := hDl
    have hDl' : D.length ≤ 60 := by omega
    have hz := X.lt
    obtain ⟨xb, xl, c0, c1, d0, d1, d2⟩ := X
    clear hO1 hO2 hDf hDo hDl HO1 HO2 X2 HOV
    by_cases hlt : k < f.length
    · rcases HR.out.next xb with h0 | ⟨g, rfl, R1⟩
      · subst h0; simp at hlt
      obtain ⟨x0, pa, ca, x1, t1⟩ := R1.cells k hlt
      have hlt2 : (k : Int) < (f.length : Int) := by omega
      have h4 := HS.out f[k] (List.getElem_mem _)
      have HT : Hid (InE _ _ _) := t1
      have HRD : Hid (ReadP _ _ _) := R1
      have HIW : Hid (InE w pa f[k].es) := by
        rcases HR.out with h0 | ⟨g', hg', R0⟩
        · subst h0; simp at hlt
        · injection hg' with hg'; injection hg' with hg'; subst hg'
          obtain ⟨_, pb, cb, z1, z2⟩ := R0.cells k hlt
          rw [xb.cell R0.lt, z1] at x1
          injection x1 with x1; injection x1 with x1 _ _; subst x1
          exact z2
      have hnu : Nonempty (Under wr) := ⟨⟨wr, Below.refl _ _⟩⟩
      have u0 : ∀ u : Under wr, u.x.cell? ⟨w.heap.size + 1, 1, none⟩ = some (.string iv.hi) := fun u => (u.h.cell xl).trans d1
      have u1 : ∀ u : Under wr, u.x.cell? ⟨w.heap.size + 1, 2, none⟩ = some (.bool iv.op) := fun u => (u.h.cell xl).trans d2
      clear R1 t1
      by_cases hkl : k = lo
      · have HST : Hid (tailR f iv lo k = [f[k]] ++ tailR f iv lo (k + 1)) := tailR_step f iv lo k hlt hlk (.inl hkl)
        have hd : decide (lo < k) = false := decide_eq_false (by omega)
        clear hkl
        have u2 : True := trivial
        have u3 : True := trivial
        go_wp2_with fail
        refine wp_region_under (by kernel_rfl) (by kernel_rfl) ?_
        repeat (go_big_quiet_step (fail))
        refine wpQuiet_nil ?_
        rintro _ ⟨u, rfl⟩
        have hO1u := owns_below HO1'.out u.h
        have hO2u := owns_below HO2'.out u.h
        have HXu : Hid (BoxTI _ _ _ _ _) := (BoxTI.mk xb xl c0 c1 d0 d1 d2).step u.h
        have HRu : Hid (ReadP _ _ _) := HRD.out.next u.h
        have c0u := HXu.out.c0
        have x0u := (u.h.cell HRD.out.lt).trans x0
        have hzu := u.h.size
        have hltu := HXu.out.lt
        have HTu : Hid (InE _ _ _) := HT.out.step u.h
        generalize u.x = U at hO1u hO2u HXu HRu c0u x0u hzu hltu HTu ⊢
        clear u0 u1 u2 u3
        go_wp2_with (at_builtin; refine wpList_append_own_at _ rfl (.tmp 55) (.tmp 62) 48 rfl (w.heap.size + 2) 3 iI (.int .i64 0) 1 8 Try.underlying48 hiI hzI0 hzI1 hzI2 rfl (by decide) _ _ _ rfl (hO2u.alloc _) ⟨U.heap.size, 0, none⟩ 1 1 [.int .i64 f[k].num] rfl rfl (cell_one_new _ _ _) ?c2 ?c3 ?c4 ?c5 ?_)
        case c2 => intro q hq; simp at hq; subst hq; rfl
        case c3 => unfold maxLen; omega
        case c4 => omega
        case c5 => simp; omega
        intro v2' w3 hO2v hg3 hnv hat
        have hO1v := World.ownsRow.kept (World.ownsRow.alloc hO1u (.cells #[.int .i64 f[k].num] 3)) hg3 (owns_types (World.ownsRow.alloc hO1u (.cells #[.int .i64 f[k].num] 3)) (World.ownsRow.alloc hO2u (.cells #[.int .i64 f[k].num] 3)) tne)
        have B3 : Below (w.heap.size + 2) U w3 := Below.grown ((Below.refl _ U).alloc (by omega) (.cells #[.int .i64 f[k].num] 3)) hg3 (by simp; omega) (fun b hb => (hO2u.lt b hb).1)
        have HX3 : Hid (BoxTI _ _ _ _ _) := HXu.out.belowStep B3 (Nat.le_refl _)
        have HO2n : Hid (World.ownsRow w3 (w.heap.size + 2) 3 1 v2' (D ++ [f[k]]).length (intsV (numsOf (D ++ [f[k]])))) := by rw [numsOf_app, intsV_app, List.length_append]; exact hO2v
        have HO1n : Hid (OwnE w3 (w.heap.size + 2) _ (entsOf iv D)) := hO1v
        have HIN : Hid (InE _ _ _) := HIW.out
        have hel := entsOf_len iv D (fun q hq => HS.out q (HDF.out q hq))
        clear hg3 hO1u hO2u hO1v hO2v hnv hat B3 x0u c0u HTu HRu HXu
        go_wp2_with fail
        go_loopw [6, 11] (fun v1 i wq => ∃ j : Nat, j ≤ f[k].es.length ∧ i = .int .i64 j ∧ OwnE wq (w.heap.size + 2) v1 (entsOf iv D ++ filt iv f[k].es j) ∧ wq.ownsRow (w.heap.size + 2) 3 1 v2' (D ++ [f[k]]).length (intsV (numsOf (D ++ [f[k]]))) ∧ BoxTI w wq (.slice (some ⟨g, 0, none⟩) f.length cap) next iv) (fun _ i _ => f[k].es.length - (intOf i).toNat)
        case atStart => exact ⟨0, Nat.zero_le _, rfl, by rw [show filt iv f[k].es 0 = [] from rfl, List.append_nil]; exact HO1n.out, HO2n.out, HX3.out⟩
        case round =>
          obtain ⟨j, hj, rfl, hO1, hO2, X⟩ := hrel
          have HO1 : Hid (OwnE _ _ _ _) := hO1
          have HO2 : Hid (World.ownsRow _ _ _ _ _ _ _) := hO2
          have HX : Hid (BoxTI _ _ _ _ _) := X
          have hzq := X.lt
          have hfl := filt_len iv f[k].es j
          clear hO1 hO2 HO1n HO2n HX3
          by_cases hjl : j < f[k].es.length
          · have hjl2 : (j : Int) < (f[k].es.length : Int) := by omega
            rcases HIN.out.step X.bel with h0 | ⟨b, off, hpa, hbl, hc⟩
            · omega
            cases hpa
            obtain ⟨y0, y1⟩ := hc j hjl
            obtain ⟨en, hen⟩ : ∃ en, en = f[k].es[j] := ⟨_, rfl⟩
            have hyes := filt_yes iv f[k].es j hjl
            have hno := filt_no iv f[k].es j hjl
            rw [← hen] at y0 y1 hyes hno
            have HYES : Hid _ := hyes
            have HNO : Hid _ := hno
            have r0 : ∀ u : Under wr, u.x.cell? ⟨w.heap.size + 1, 0, none⟩ = some (.string iv.lo) := fun u => (u.h.cell hzq).trans X.d0
            have r1 : ∀ u : Under wr, u.x.cell? ⟨w.heap.size + 1, 1, none⟩ = some (.string iv.hi) := fun u => (u.h.cell hzq).trans X.d1
            have r2 : ∀ u : Under wr, u.x.cell? ⟨w.heap.size + 1, 2, none⟩ = some (.bool iv.op) := fun u => (u.h.cell hzq).trans X.d2
            have r3 := fun u : Under wr => (u.h.cell hbl).trans y0
            have r4 := fun u : Under wr => (u.h.cell hbl).trans y1
            have HH0 := fun u : Under wr => l04Has_any iv.lo iv.hi iv.op en.key u.x
            have hnu : Nonempty (Under wr) := ⟨⟨wr, Below.refl _ _⟩⟩
            clear hc y0 y1 hen hyes hno X
            cases hH : hasI iv en.key
            · rw [show hasI ⟨iv.lo, iv.hi, iv.op⟩ en.key = false from hH] at HH0
              have HH : Hid (∀ u : Under wr, Calls _ _ _ u.x _) := HH0
              have HN : Hid (filt iv f[k].es (j + 1) = filt iv f[k].es j) := HNO.out hH
              clear HH0 hH
              go_wp2_with fail
              refine wp_region_under (by kernel_rfl) (by kernel_rfl) ?_
              repeat (go_big_quiet_step ((go_at_call 106; exact calls_under _ (HH.out _))))
              refine wpQuiet_nil ?_
              rintro _ ⟨u, rfl⟩
              go_wp2_with fail
              go_roundw
              case rel => exact ⟨j + 1, by omega, by go_num, by rw [HN.out]; exact owns_below HO1.out u.h, owns_below HO2.out u.h, HX.out.step u.h⟩
              case measure => simp [intOf]; omega
            · rw [show hasI ⟨iv.lo, iv.hi, iv.op⟩ en.key = true from hH] at HH0
              have HH : Hid (∀ u : Under wr, Calls _ _ _ u.x _) := HH0
              have HN : Hid (filt iv f[k].es (j + 1) = filt iv f[k].es j ++ [en]) := HYES.out hH
              clear HH0 hH
              go_wp2_with fail
              refine wp_region_under (by kernel_rfl) (by kernel_rfl) ?_
              repeat (go_big_quiet_step ((go_at_call 106; exact calls_under _ (HH.out _))))
              refine wpQuiet_nil ?_
              rintro _ ⟨u, rfl⟩
              have e3 := r3 u
              have e4 := r4 u
              have hO1u := owns_below HO1.out u.h
              have hO2u := owns_below HO2.out u.h
              have HXu : Hid (BoxTI _ _ _ _ _) := HX.out.step u.h
              have hltu := HXu.out.lt
              generalize u.x = U2 at e3 e4 hO1u hO2u HXu hltu ⊢
              clear r0 r1 r2 r3 r4
              go_wp2_with (at_builtin; refine wpList_append_own_at _ rfl (.tmp 77) (.tmp 82) 47 rfl (w.heap.size + 2) 40 iE (.agg #[.string em, .int .i64 0]) 2 24 Try.underlying47 hiE hzE0 hzE1 hzE2 rfl (by decide) _ _ _ rfl (hO1u.alloc _) ⟨U2.heap.size, 0, none⟩ 1 1 [.string en.key, .int .i64 en.id] rfl rfl ?c1 ?c2 ?c3 ?c4 ?c5 ?_)
              case c1 =>
                intro j' x hj'
                match j', hj' with
                | 0, hj' => simp at hj'; subst hj'; simp [Addr.add, go_sem]
                | 1, hj' => simp at hj'; subst hj'; simp [Addr.add, go_sem]
                | j' + 2, hj' => simp at hj'
              case c2 => intro x hx; simp at hx; rcases hx with rfl | rfl <;> rfl
              case c3 => rw [List.length_append]; unfold maxLen; omega
              case c4 => rw [List.length_append]; omega
              case c5 => simp; omega
              intro v1' w4 hO1v hg4 hnv hat
              have hO2v := World.ownsRow.kept (World.ownsRow.alloc hO2u (.cells #[.string en.key, .int .i64 en.id] 40)) hg4 (owns_types (World.ownsRow.alloc hO2u (.cells #[.string en.key, .int .i64 en.id] 40)) (World.ownsRow.alloc hO1u (.cells #[.string en.key, .int .i64 en.id] 40)) tne')
              have B4 : Below (w.heap.size + 2) U2 w4 := Below.grown ((Below.refl _ U2).alloc (by omega) (.cells #[.string en.key, .int .i64 en.id] 40)) hg4 (by simp; omega) (fun b hb => (hO1u.lt b hb).1)
              have HX4 : Hid (BoxTI _ _ _ _ _) := HXu.out.belowStep B4 (Nat.le_refl _)
              have hO1w : OwnE w4 (w.heap.size + 2) v1' (entsOf iv D ++ filt iv f[k].es (j + 1)) := by
                rw [HN.out, ← List.append_assoc]
                unfold OwnE
                rw [flatE_snoc, List.length_append, List.length_append]
                exact hO1v
              have HO1w : Hid (OwnE _ _ _ _) := hO1w
              have HO2w : Hid (World.ownsRow _ _ _ _ _ _ _) := hO2v
              clear hg4 hO1u hO2u hO1v hO2v hnv hat B4 hO1w
              go_wp2_with fail
              go_roundw
              case rel => exact ⟨j + 1, by omega, by go_num, HO1w.out, HO2w.out, HX4.out⟩
              case measure => simp [intOf]; omega
          · have hjl2 : ¬ (j : Int) < (f[k].es.length : Int) := by omega
            have HFA : Hid (filt iv f[k].es j = f[k].es.filter fun e => hasI iv e.key) := filt_all iv f[k].es j (by omega)
            go_wp2_with fail
            go_roundw
            case rel =>
              refine ⟨k + 1, D ++ [f[k]], by omega, by omega, by go_num, by rw [List.length_append]; have := HDL.out; simp; omega, ?_, ?_, ?_, HO2.out, X⟩
              · intro q hq
                rcases List.mem_append.mp hq with h | h
                · exact HDF.out q h
                · rw [List.mem_singleton.mp h]; exact List.getElem_mem _
              · rw [List.append_assoc, ← HST.out]; exact HDO.out
              · rw [entsOf_app, entsOf_one, ← HFA.out]; exact HO1.out
            case measure => simp [intOf]; omega
      · have hd : decide (lo < k) = true := decide_eq_true (by omega)
        have hz1 : 0 < f[k].es.length := HNE.out (by omega) f[k] (List.getElem_mem _)
        have hgs := goB_some (iv := iv) hz1
        rcases HT.out with h0 | ⟨b0, o0, rfl, hb0l, hc0⟩
        · omega
        obtain ⟨y0, _⟩ := hc0 0 hz1
        obtain ⟨fe, hfe⟩ : ∃ fe, fe = f[k].es[0] := ⟨_, rfl⟩
        rw [← hfe] at y0 hgs
        have u2 : ∀ u : Under wr, u.x.cell? ⟨b0, o0, none⟩ = some (.string fe.key) := fun u => (u.h.cell hb0l).trans y0
        have hzd : decide (0 < f[k].es.length) = true := decide_eq_true hz1
        have hzi : 0 < (f[k].es.length : Int) := by omega
        clear hc0 hfe y0
        cases hop : iv.op
        · rw [hop] at u1 hgs
          cases hL : Op.bytesLess fe.key.toList iv.hi.toList
          · rw [hL] at hgs
            have hstop := tailR_stop f iv lo k hlt hkl hgs
            have HFIN : Hid (overP f iv = D) := HDO.out.trans (by rw [hstop, List.append_nil])
            clear hstop hgs
            go_wp2_with fail
            refine wp_region_under (by kernel_rfl) (by kernel_rfl) ?_
            repeat (go_big_quiet_step (fail))
            refine wpQuiet_nil ?_
            rintro _ ⟨u, rfl⟩
            have hO1u := owns_below HO1'.out u.h
            have hO2u := owns_below HO2'.out u.h
            have Bu := xb.trans (u.h.mono xb.size)
            have HP1 : Hid (OwnE _ _ _ _) := owns_mono hO1u (show w.heap.size ≤ w.heap.size + 2 by omega)
            have HP2 : Hid (World.ownsRow _ _ _ _ _ _ _) := owns_mono hO2u (show w.heap.size ≤ w.heap.size + 2 by omega)
            clear hO1u hO2u
            go_wp2_with fail
            go_ret2
            exact ⟨⟨_, _, rfl, by rw [HFIN.out]; exact HP1.out, by rw [HFIN.out]; exact HP2.out⟩, Bu⟩
          · rw [hL] at hgs
            have HST : Hid (tailR f iv lo k = [f[k]] ++ tailR f iv lo (k + 1)) := tailR_step f iv lo k hlt hlk (.inr hgs)
            have u3 : True := trivial
            clear hgs hop
            go_wp2_with fail
            refine wp_region_under (by kernel_rfl) (by kernel_rfl) ?_
            repeat (go_big_quiet_step (fail))
            refine wpQuiet_nil ?_
            rintro _ ⟨u, rfl⟩
            have hO1u := owns_below HO1'.out u.h
            have hO2u := owns_below HO2'.out u.h
            have HXu : Hid (BoxTI _ _ _ _ _) := (BoxTI.mk xb xl c0 c1 d0 d1 d2).step u.h
            have HRu : Hid (ReadP _ _ _) := HRD.out.next u.h
            have c0u := HXu.out.c0
            have x0u := (u.h.cell HRD.out.lt).trans x0
            have hzu := u.h.size
            have hltu := HXu.out.lt
            have HTu : Hid (InE _ _ _) := HT.out.step u.h
            generalize u.x = U at hO1u hO2u HXu HRu c0u x0u hzu hltu HTu ⊢
            clear u0 u1 u2 u3
            go_wp2_with (at_builtin; refine wpList_append_own_at _ rfl (.tmp 55) (.tmp 62) 48 rfl (w.heap.size + 2) 3 iI (.int .i64 0) 1 8 Try.underlying48 hiI hzI0 hzI1 hzI2 rfl (by decide) _ _ _ rfl (hO2u.alloc _) ⟨U.heap.size, 0, none⟩ 1 1 [.int .i64 f[k].num] rfl rfl (cell_one_new _ _ _) ?c2 ?c3 ?c4 ?c5 ?_)
            case c2 => intro q hq; simp at hq; subst hq; rfl
            case c3 => unfold maxLen; omega
            case c4 => omega
            case c5 => simp; omega
            intro v2' w3 hO2v hg3 hnv hat
            have hO1v := World.ownsRow.kept (World.ownsRow.alloc hO1u (.cells #[.int .i64 f[k].num] 3)) hg3 (owns_types (World.ownsRow.alloc hO1u (.cells #[.int .i64 f[k].num] 3)) (World.ownsRow.alloc hO2u (.cells #[.int .i64 f[k].num] 3)) tne)
            have B3 : Below (w.heap.size + 2) U w3 := Below.grown ((Below.refl _ U).alloc (by omega) (.cells #[.int .i64 f[k].num] 3)) hg3 (by simp; omega) (fun b hb => (hO2u.lt b hb).1)
            have HX3 : Hid (BoxTI _ _ _ _ _) := HXu.out.belowStep B3 (Nat.le_refl _)
            have HO2n : Hid (World.ownsRow w3 (w.heap.size + 2) 3 1 v2' (D ++ [f[k]]).length (intsV (numsOf (D ++ [f[k]])))) := by rw [numsOf_app, intsV_app, List.length_append]; exact hO2v
            have HO1n : Hid (OwnE w3 (w.heap.size + 2) _ (entsOf iv D)) := hO1v
            have HIN : Hid (InE _ _ _) := HIW.out
            have hel := entsOf_len iv D (fun q hq => HS.out q (HDF.out q hq))
            clear hg3 hO1u hO2u hO1v hO2v hnv hat B3 x0u c0u HTu HRu HXu
            go_wp2_with fail
            go_loopw [6, 11] (fun v1 i wq => ∃ j : Nat, j ≤ f[k].es.length ∧ i = .int .i64 j ∧ OwnE wq (w.heap.size + 2) v1 (entsOf iv D ++ filt iv f[k].es j) ∧ wq.ownsRow (w.heap.size + 2) 3 1 v2' (D ++ [f[k]]).length (intsV (numsOf (D ++ [f[k]]))) ∧ BoxTI w wq (.slice (some ⟨g, 0, none⟩) f.length cap) next iv) (fun _ i _ => f[k].es.length - (intOf i).toNat)
            case atStart => exact ⟨0, Nat.zero_le _, rfl, by rw [show filt iv f[k].es 0 = [] from rfl, List.append_nil]; exact HO1n.out, HO2n.out, HX3.out⟩
            case round =>
              obtain ⟨j, hj, rfl, hO1, hO2, X⟩ := hrel
              have HO1 : Hid (OwnE _ _ _ _) := hO1
              have HO2 : Hid (World.ownsRow _ _ _ _ _ _ _) := hO2
              have HX : Hid (BoxTI _ _ _ _ _) := X
              have hzq := X.lt
              have hfl := filt_len iv f[k].es j
              clear hO1 hO2 HO1n HO2n HX3
              by_cases hjl : j < f[k].es.length
              · have hjl2 : (j : Int) < (f[k].es.length : Int) := by omega
                rcases HIN.out.step X.bel with h0 | ⟨b, off, hpa, hbl, hc⟩
                · omega
                cases hpa
                obtain ⟨y0, y1⟩ := hc j hjl
                obtain ⟨en, hen⟩ : ∃ en, en = f[k].es[j] := ⟨_, rfl⟩
                have hyes := filt_yes iv f[k].es j hjl
                have hno := filt_no iv f[k].es j hjl
                rw [← hen] at y0 y1 hyes hno
                have HYES : Hid _ := hyes
                have HNO : Hid _ := hno
                have r0 : ∀ u : Under wr, u.x.cell? ⟨w.heap.size + 1, 0, none⟩ = some (.string iv.lo) := fun u => (u.h.cell hzq).trans X.d0
                have r1 : ∀ u : Under wr, u.x.cell? ⟨w.heap.size + 1, 1, none⟩ = some (.string iv.hi) := fun u => (u.h.cell hzq).trans X.d1
                have r2 : ∀ u : Under wr, u.x.cell? ⟨w.heap.size + 1, 2, none⟩ = some (.bool iv.op) := fun u => (u.h.cell hzq).trans X.d2
                have r3 := fun u : Under wr => (u.h.cell hbl).trans y0
                have r4 := fun u : Under wr => (u.h.cell hbl).trans y1
                have HH0 := fun u : Under wr => l04Has_any iv.lo iv.hi iv.op en.key u.x
                have hnu : Nonempty (Under wr) := ⟨⟨wr, Below.refl _ _⟩⟩
                clear hc y0 y1 hen hyes hno X
                cases hH : hasI iv en.key
                · rw [show hasI ⟨iv.lo, iv.hi, iv.op⟩ en.key = false from hH] at HH0
                  have HH : Hid (∀ u : Under wr, Calls _ _ _ u.x _) := HH0
                  have HN : Hid (filt iv f[k].es (j + 1) = filt iv f[k].es j) := HNO.out hH
                  clear HH0 hH
                  go_wp2_with fail
                  refine wp_region_under (by kernel_rfl) (by kernel_rfl) ?_
                  repeat (go_big_quiet_step ((go_at_call 106; exact calls_under _ (HH.out _))))
                  refine wpQuiet_nil ?_
                  rintro _ ⟨u, rfl⟩
                  go_wp2_with fail
                  go_roundw
                  case rel => exact ⟨j + 1, by omega, by go_num, by rw [HN.out]; exact owns_below HO1.out u.h, owns_below HO2.out u.h, HX.out.step u.h⟩
                  case measure => simp [intOf]; omega
                · rw [show hasI ⟨iv.lo, iv.hi, iv.op⟩ en.key = true from hH] at HH0
                  have HH : Hid (∀ u : Under wr, Calls _ _ _ u.x _) := HH0
                  have HN : Hid (filt iv f[k].es (j + 1) = filt iv f[k].es j ++ [en]) := HYES.out hH
                  clear HH0 hH
                  go_wp2_with fail
                  refine wp_region_under (by kernel_rfl) (by kernel_rfl) ?_
                  repeat (go_big_quiet_step ((go_at_call 106; exact calls_under _ (HH.out _))))
                  refine wpQuiet_nil ?_
                  rintro _ ⟨u, rfl⟩
                  have e3 := r3 u
                  have e4 := r4 u
                  have hO1u := owns_below HO1.out u.h
                  have hO2u := owns_below HO2.out u.h
                  have HXu : Hid (BoxTI _ _ _ _ _) := HX.out.step u.h
                  have hltu := HXu.out.lt
                  generalize u.x = U2 at e3 e4 hO1u hO2u HXu hltu ⊢
                  clear r0 r1 r2 r3 r4
                  go_wp2_with (at_builtin; refine wpList_append_own_at _ rfl (.tmp 77) (.tmp 82) 47 rfl (w.heap.size + 2) 40 iE (.agg #[.string em, .int .i64 0]) 2 24 Try.underlying47 hiE hzE0 hzE1 hzE2 rfl (by decide) _ _ _ rfl (hO1u.alloc _) ⟨U2.heap.size, 0, none⟩ 1 1 [.string en.key, .int .i64 en.id] rfl rfl ?c1 ?c2 ?c3 ?c4 ?c5 ?_)
                  case c1 =>
                    intro j' x hj'
                    match j', hj' with
                    | 0, hj' => simp at hj'; subst hj'; simp [Addr.add, go_sem]
                    | 1, hj' => simp at hj'; subst hj'; simp [Addr.add, go_sem]
                    | j' + 2, hj' => simp at hj'
                  case c2 => intro x hx; simp at hx; rcases hx with rfl | rfl <;> rfl
                  case c3 => rw [List.length_append]; unfold maxLen; omega
                  case c4 => rw [List.length_append]; omega
                  case c5 => simp; omega
                  intro v1' w4 hO1v hg4 hnv hat
                  have hO2v := World.ownsRow.kept (World.ownsRow.alloc hO2u (.cells #[.string en.key, .int .i64 en.id] 40)) hg4 (owns_types (World.ownsRow.alloc hO2u (.cells #[.string en.key, .int .i64 en.id] 40)) (World.ownsRow.alloc hO1u (.cells #[.string en.key, .int .i64 en.id] 40)) tne')
                  have B4 : Below (w.heap.size + 2) U2 w4 := Below.grown ((Below.refl _ U2).alloc (by omega) (.cells #[.string en.key, .int .i64 en.id] 40)) hg4 (by simp; omega) (fun b hb => (hO1u.lt b hb).1)
                  have HX4 : Hid (BoxTI _ _ _ _ _) := HXu.out.belowStep B4 (Nat.le_refl _)
                  have hO1w : OwnE w4 (w.heap.size + 2) v1' (entsOf iv D ++ filt iv f[k].es (j + 1)) := by
                    rw [HN.out, ← List.append_assoc]
                    unfold OwnE
                    rw [flatE_snoc, List.length_append, List.length_append]
                    exact hO1v
                  have HO1w : Hid (OwnE _ _ _ _) := hO1w
                  have HO2w : Hid (World.ownsRow _ _ _ _ _ _ _) := hO2v
                  clear hg4 hO1u hO2u hO1v hO2v hnv hat B4 hO1w
                  go_wp2_with fail
                  go_roundw
                  case rel => exact ⟨j + 1, by omega, by go_num, HO1w.out, HO2w.out, HX4.out⟩
                  case measure => simp [intOf]; omega
              · have hjl2 : ¬ (j : Int) < (f[k].es.length : Int) := by omega
                have HFA : Hid (filt iv f[k].es j = f[k].es.filter fun e => hasI iv e.key) := filt_all iv f[k].es j (by omega)
                go_wp2_with fail
                go_roundw
                case rel =>
                  refine ⟨k + 1, D ++ [f[k]], by omega, by omega, by go_num, by rw [List.length_append]; have := HDL.out; simp; omega, ?_, ?_, ?_, HO2.out, X⟩
                  · intro q hq
                    rcases List.mem_append.mp hq with h | h
                    · exact HDF.out q h
                    · rw [List.mem_singleton.mp h]; exact List.getElem_mem _
                  · rw [List.append_assoc, ← HST.out]; exact HDO.out
                  · rw [entsOf_app, entsOf_one, ← HFA.out]; exact HO1.out
                case measure => simp [intOf]; omega
        · rw [hop] at u1 hgs
          have HST : Hid (tailR f iv lo k = [f[k]] ++ tailR f iv lo (k + 1)) := tailR_step f iv lo k hlt hlk (.inr hgs)
          have u3 : True := trivial
          clear hgs hop
          go_wp2_with fail
          refine wp_region_under (by kernel_rfl) (by kernel_rfl) ?_
          repeat (go_big_quiet_step (fail))
          refine wpQuiet_nil ?_
          rintro _ ⟨u, rfl⟩
          have hO1u := owns_below HO1'.out u.h
          have hO2u := owns_below HO2'.out u.h
          have HXu : Hid (BoxTI _ _ _ _ _) := (BoxTI.mk xb xl c0 c1 d0 d1 d2).step u.h
          have HRu : Hid (ReadP _ _ _) := HRD.out.next u.h
          have c0u := HXu.out.c0
          have x0u := (u.h.cell HRD.out.lt).trans x0
          have hzu := u.h.size
          have hltu := HXu.out.lt
          have HTu : Hid (InE _ _ _) := HT.out.step u.h
          generalize u.x = U at hO1u hO2u HXu HRu c0u x0u hzu hltu HTu ⊢
          clear u0 u1 u2 u3
          go_wp2_with (at_builtin; refine wpList_append_own_at _ rfl (.tmp 55) (.tmp 62) 48 rfl (w.heap.size + 2) 3 iI (.int .i64 0) 1 8 Try.underlying48 hiI hzI0 hzI1 hzI2 rfl (by decide) _ _ _ rfl (hO2u.alloc _) ⟨U.heap.size, 0, none⟩ 1 1 [.int .i64 f[k].num] rfl rfl (cell_one_new _ _ _) ?c2 ?c3 ?c4 ?c5 ?_)
          case c2 => intro q hq; simp at hq; subst hq; rfl
          case c3 => unfold maxLen; omega
          case c4 => omega
          case c5 => simp; omega
          intro v2' w3 hO2v hg3 hnv hat
          have hO1v := World.ownsRow.kept (World.ownsRow.alloc hO1u (.cells #[.int .i64 f[k].num] 3)) hg3 (owns_types (World.ownsRow.alloc hO1u (.cells #[.int .i64 f[k].num] 3)) (World.ownsRow.alloc hO2u (.cells #[.int .i64 f[k].num] 3)) tne)
          have B3 : Below (w.heap.size + 2) U w3 := Below.grown ((Below.refl _ U).alloc (by omega) (.cells #[.int .i64 f[k].num] 3)) hg3 (by simp; omega) (fun b hb => (hO2u.lt b hb).1)
          have HX3 : Hid (BoxTI _ _ _ _ _) := HXu.out.belowStep B3 (Nat.le_refl _)
          have HO2n : Hid (World.ownsRow w3 (w.heap.size + 2) 3 1 v2' (D ++ [f[k]]).length (intsV (numsOf (D ++ [f[k]])))) := by rw [numsOf_app, intsV_app, List.length_append]; exact hO2v
          have HO1n : Hid (OwnE w3 (w.heap.size + 2) _ (entsOf iv D)) := hO1v
          have HIN : Hid (InE _ _ _) := HIW.out
          have hel := entsOf_len iv D (fun q hq => HS.out q (HDF.out q hq))
          clear hg3 hO1u hO2u hO1v hO2v hnv hat B3 x0u c0u HTu HRu HXu
          go_wp2_with fail
          go_loopw [6, 11] (fun v1 i wq => ∃ j : Nat, j ≤ f[k].es.length ∧ i = .int .i64 j ∧ OwnE wq (w.heap.size + 2) v1 (entsOf iv D ++ filt iv f[k].es j) ∧ wq.ownsRow (w.heap.size + 2) 3 1 v2' (D ++ [f[k]]).length (intsV (numsOf (D ++ [f[k]]))) ∧ BoxTI w wq (.slice (some ⟨g, 0, none⟩) f.length cap) next iv) (fun _ i _ => f[k].es.length - (intOf i).toNat)
          case atStart => exact ⟨0, Nat.zero_le _, rfl, by rw [show filt iv f[k].es 0 = [] from rfl, List.append_nil]; exact HO1n.out, HO2n.out, HX3.out⟩
          case round =>
            obtain ⟨j, hj, rfl, hO1, hO2, X⟩ := hrel
            have HO1 : Hid (OwnE _ _ _ _) := hO1
            have HO2 : Hid (World.ownsRow _ _ _ _ _ _ _) := hO2
            have HX : Hid (BoxTI _ _ _ _ _) := X
            have hzq := X.lt
            have hfl := filt_len iv f[k].es j
            clear hO1 hO2 HO1n HO2n HX3
            by_cases hjl : j < f[k].es.length
            · have hjl2 : (j : Int) < (f[k].es.length : Int) := by omega
              rcases HIN.out.step X.bel with h0 | ⟨b, off, hpa, hbl, hc⟩
              · omega
              cases hpa
              obtain ⟨y0, y1⟩ := hc j hjl
              obtain ⟨en, hen⟩ : ∃ en, en = f[k].es[j] := ⟨_, rfl⟩
              have hyes := filt_yes iv f[k].es j hjl
              have hno := filt_no iv f[k].es j hjl
              rw [← hen] at y0 y1 hyes hno
              have HYES : Hid _ := hyes
              have HNO : Hid _ := hno
              have r0 : ∀ u : Under wr, u.x.cell? ⟨w.heap.size + 1, 0, none⟩ = some (.string iv.lo) := fun u => (u.h.cell hzq).trans X.d0
              have r1 : ∀ u : Under wr, u.x.cell? ⟨w.heap.size + 1, 1, none⟩ = some (.string iv.hi) := fun u => (u.h.cell hzq).trans X.d1
              have r2 : ∀ u : Under wr, u.x.cell? ⟨w.heap.size + 1, 2, none⟩ = some (.bool iv.op) := fun u => (u.h.cell hzq).trans X.d2
              have r3 := fun u : Under wr => (u.h.cell hbl).trans y0
              have r4 := fun u : Under wr => (u.h.cell hbl).trans y1
              have HH0 := fun u : Under wr => l04Has_any iv.lo iv.hi iv.op en.key u.x
              have hnu : Nonempty (Under wr) := ⟨⟨wr, Below.refl _ _⟩⟩
              clear hc y0 y1 hen hyes hno X
              cases hH : hasI iv en.key
              · rw [show hasI ⟨iv.lo, iv.hi, iv.op⟩ en.key = false from hH] at HH0
                have HH : Hid (∀ u : Under wr, Calls _ _ _ u.x _) := HH0
                have HN : Hid (filt iv f[k].es (j + 1) = filt iv f[k].es j) := HNO.out hH
                clear HH0 hH
                go_wp2_with fail
                refine wp_region_under (by kernel_rfl) (by kernel_rfl) ?_
                repeat (go_big_quiet_step ((go_at_call 106; exact calls_under _ (HH.out _))))
                refine wpQuiet_nil ?_
                rintro _ ⟨u, rfl⟩
                go_wp2_with fail
                go_roundw
                case rel => exact ⟨j + 1, by omega, by go_num, by rw [HN.out]; exact owns_below HO1.out u.h, owns_below HO2.out u.h, HX.out.step u.h⟩
                case measure => simp [intOf]; omega
              · rw [show hasI ⟨iv.lo, iv.hi, iv.op⟩ en.key = true from hH] at HH0
                have HH : Hid (∀ u : Under wr, Calls _ _ _ u.x _) := HH0
                have HN : Hid (filt iv f[k].es (j + 1) = filt iv f[k].es j ++ [en]) := HYES.out hH
                clear HH0 hH
                go_wp2_with fail
                refine wp_region_under (by kernel_rfl) (by kernel_rfl) ?_
                repeat (go_big_quiet_step ((go_at_call 106; exact calls_under _ (HH.out _))))
                refine wpQuiet_nil ?_
                rintro _ ⟨u, rfl⟩
                have e3 := r3 u
                have e4 := r4 u
                have hO1u := owns_below HO1.out u.h
                have hO2u := owns_below HO2.out u.h
                have HXu : Hid (BoxTI _ _ _ _ _) := HX.out.step u.h
                have hltu := HXu.out.lt
                generalize u.x = U2 at e3 e4 hO1u hO2u HXu hltu ⊢
                clear r0 r1 r2 r3 r4
                go_wp2_with (at_builtin; refine wpList_append_own_at _ rfl (.tmp 77) (.tmp 82) 47 rfl (w.heap.size + 2) 40 iE (.agg #[.string em, .int .i64 0]) 2 24 Try.underlying47 hiE hzE0 hzE1 hzE2 rfl (by decide) _ _ _ rfl (hO1u.alloc _) ⟨U2.heap.size, 0, none⟩ 1 1 [.string en.key, .int .i64 en.id] rfl rfl ?c1 ?c2 ?c3 ?c4 ?c5 ?_)
                case c1 =>
                  intro j' x hj'
                  match j', hj' with
                  | 0, hj' => simp at hj'; subst hj'; simp [Addr.add, go_sem]
                  | 1, hj' => simp at hj'; subst hj'; simp [Addr.add, go_sem]
                  | j' + 2, hj' => simp at hj'
                case c2 => intro x hx; simp at hx; rcases hx with rfl | rfl <;> rfl
                case c3 => rw [List.length_append]; unfold maxLen; omega
                case c4 => rw [List.length_append]; omega
                case c5 => simp; omega
                intro v1' w4 hO1v hg4 hnv hat
                have hO2v := World.ownsRow.kept (World.ownsRow.alloc hO2u (.cells #[.string en.key, .int .i64 en.id] 40)) hg4 (owns_types (World.ownsRow.alloc hO2u (.cells #[.string en.key, .int .i64 en.id] 40)) (World.ownsRow.alloc hO1u (.cells #[.string en.key, .int .i64 en.id] 40)) tne')
                have B4 : Below (w.heap.size + 2) U2 w4 := Below.grown ((Below.refl _ U2).alloc (by omega) (.cells #[.string en.key, .int .i64 en.id] 40)) hg4 (by simp; omega) (fun b hb => (hO1u.lt b hb).1)
                have HX4 : Hid (BoxTI _ _ _ _ _) := HXu.out.belowStep B4 (Nat.le_refl _)
                have hO1w : OwnE w4 (w.heap.size + 2) v1' (entsOf iv D ++ filt iv f[k].es (j + 1)) := by
                  rw [HN.out, ← List.append_assoc]
                  unfold OwnE
                  rw [flatE_snoc, List.length_append, List.length_append]
                  exact hO1v
                have HO1w : Hid (OwnE _ _ _ _) := hO1w
                have HO2w : Hid (World.ownsRow _ _ _ _ _ _ _) := hO2v
                clear hg4 hO1u hO2u hO1v hO2v hnv hat B4 hO1w
                go_wp2_with fail
                go_roundw
                case rel => exact ⟨j + 1, by omega, by go_num, HO1w.out, HO2w.out, HX4.out⟩
                case measure => simp [intOf]; omega
            · have hjl2 : ¬ (j : Int) < (f[k].es.length : Int) := by omega
              have HFA : Hid (filt iv f[k].es j = f[k].es.filter fun e => hasI iv e.key) := filt_all iv f[k].es j (by omega)
              go_wp2_with fail
              go_roundw
              case rel =>
                refine ⟨k + 1, D ++ [f[k]], by omega, by omega, by go_num, by rw [List.length_append]; have := HDL.out; simp; omega, ?_, ?_, ?_, HO2.out, X⟩
                · intro q hq
                  rcases List.mem_append.mp hq with h | h
                  · exact HDF.out q h
                  · rw [List.mem_singleton.mp h]; exact List.getElem_mem _
                · rw [List.append_assoc, ← HST.out]; exact HDO.out
                · rw [entsOf_app, entsOf_one, ← HFA.out]; exact HO1.out
              case measure => simp [intOf]; omega
    · have hlt2 : ¬ (k : Int) < (f.length : Int) := by omega
      have hte := tailR_end f iv lo k (by omega) (by omega)
      have hfin : overP f iv = D := by rw [HDO.out, hte, List.append_nil]
      have HFIN : Hid _ := hfin
      clear hte hfin
      go_wp2_with fail
      go_ret2
      exact ⟨⟨_, _, rfl, by rw [HFIN.out]; exact owns_mono HO1'.out (by omega), by rw [HFIN.out]; exact owns_mono HO2'.out (by omega)⟩, xb⟩

end Go.Proofs.Ytnmpfooegnmknaa.Tr
