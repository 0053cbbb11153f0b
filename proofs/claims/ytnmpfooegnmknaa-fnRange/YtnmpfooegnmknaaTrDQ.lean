/- What an interval has of a tree: said plainly, and what the specification answers. -/
import Derived.Test.YtnmpfooegnmknaaTrC
import Derived.Test.YtnmpfooegnmknaaTrX
import Derived.Deep.RegionHeld3
import Derived.Test.YtnmpfooegnmknaaDrwB
import Derived.ProofKit
import Derived.Test.YtnmpfooegnmknaaTrZQ
import Derived.Deep.DeepCutAuto
import Derived.Test.YtnmpfooegnmknaaDrwM
import Derived.Deep.AppendSrc
namespace Go.Proofs.Ytnmpfooegnmknaa.Tr
open Go.RowKit
set_option linter.unusedVariables false

theorem infoI : (Try.prog.info? 3).map (fun i => (i.zero, i.size, i.bytes)) = some (some (.int .i64 0), 1, 8) := by kernel_rfl
/-- A walk over the interval goes on to this page. -/
def goB (iv : Ivl) (p : Pg) : Bool := iv.op || (match p.es with
  | [] => true
  | e :: _ => Op.bytesLess e.key.toList iv.hi.toList)
theorem goB_none {iv : Ivl} {p : Pg} (h : p.es = []) : goB iv p = true := by unfold goB; rw [h]; simp
theorem goB_some {iv : Ivl} {p : Pg} (h : 0 < p.es.length) : goB iv p = (iv.op || Op.bytesLess (p.es[0]'h).key.toList iv.hi.toList) := by
  unfold goB
  match p, h with
  | ⟨n, a :: t⟩, _ => rfl
def loP (f : List Pg) (iv : Ivl) : Nat := place f ⟨iv.lo, -1⟩
def overP (f : List Pg) (iv : Ivl) : List Pg := (f.drop (loP f iv)).take 1 ++ (f.drop (loP f iv + 1)).takeWhile (goB iv)
def entsOf (iv : Ivl) (ps : List Pg) : List Ent := (ps.flatMap fun p => p.es).filter fun e => hasI iv e.key
def numsOf (ps : List Pg) : List Int := ps.map fun p => p.num
def intsV (l : List Int) : List Value := l.map (Value.int .i64)
theorem entsOf_app (iv : Ivl) (a b : List Pg) : entsOf iv (a ++ b) = entsOf iv a ++ entsOf iv b := by unfold entsOf; simp
theorem numsOf_app (a b : List Pg) : numsOf (a ++ b) = numsOf a ++ numsOf b := by unfold numsOf; simp
theorem entsOf_one (iv : Ivl) (p : Pg) : entsOf iv [p] = p.es.filter fun e => hasI iv e.key := by unfold entsOf; simp
theorem numsOf_one (p : Pg) : numsOf [p] = [p.num] := rfl
theorem intsV_app (a b : List Int) : intsV (a ++ b) = intsV a ++ intsV b := by unfold intsV; simp
/-- Pages that were walked, and the pages that are still to be. -/
theorem over_step (iv : Ivl) (f : List Pg) (k : Nat) (h : k < f.length) : (f.drop k).takeWhile (goB iv) = if goB iv f[k] = true then f[k] :: (f.drop (k + 1)).takeWhile (goB iv) else [] := by
  rw [drop_cons f k h, List.takeWhile_cons]
theorem owns_types {w : World} {b1 b2 : Nat} {e1 e2 : TypeId} {s1 s2 n1 n2 : Nat} {v1 v2 : Value} {xs1 xs2 : List Value} (h1 : w.ownsRow b1 e1 s1 v1 n1 xs1) (h2 : w.ownsRow b2 e2 s2 v2 n2 xs2) (hne : e1 ≠ e2) : v1.ownBlock = none ∨ v1.ownBlock ≠ v2.ownBlock := by
  obtain ⟨_, h1⟩ := h1
  obtain ⟨_, h2⟩ := h2
  rcases h1 with ⟨rfl, _⟩ | ⟨g, cap, cur, rfl, _, hh, _⟩
  · exact .inl rfl
  · rcases h2 with ⟨rfl, _⟩ | ⟨g2, cap2, cur2, rfl, _, hh2, _⟩
    · exact .inr (by simp [Value.ownBlock])
    · refine .inr (fun e => ?_)
      have e' : g = g2 := by simpa [Value.ownBlock] using e
      subst e'
      rw [hh] at hh2
      injection hh2 with hh2
      injection hh2 with _ hh2 _
      exact hne hh2
theorem tne : (40 : TypeId) ≠ 3 := by decide
theorem tne' : (3 : TypeId) ≠ 40 := by decide

/-- A tree and an interval in the first two new blocks. -/
structure BoxTI (w W : World) (v : Value) (next : Int) (iv : Ivl) : Prop where
  bel : Below w.heap.size w W
  lt : w.heap.size + 1 < W.heap.size
  c0 : W.cell? ⟨w.heap.size, 0, none⟩ = some v
  c1 : W.cell? ⟨w.heap.size, 1, none⟩ = some (.int .i64 next)
  d0 : W.cell? ⟨w.heap.size + 1, 0, none⟩ = some (.string iv.lo)
  d1 : W.cell? ⟨w.heap.size + 1, 1, none⟩ = some (.string iv.hi)
  d2 : W.cell? ⟨w.heap.size + 1, 2, none⟩ = some (.bool iv.op)
theorem BoxTI.start (w : World) (v : Value) (next : Int) (iv : Ivl) (T U : TypeId) : BoxTI w ((w.alloc (.cells #[v, .int .i64 next] T)).alloc (.cells #[.string iv.lo, .string iv.hi, .bool iv.op] U)) v next iv :=
  ⟨((Below.refl _ _).alloc (Nat.le_refl _) _).alloc (by simp) _, by simp, by simp [go_sem], by simp [go_sem], by simp [go_sem], by simp [go_sem], by simp [go_sem]⟩
theorem BoxTI.step {w W W' : World} {v : Value} {next : Int} {iv : Ivl} (h : BoxTI w W v next iv) (hb : Below W.heap.size W W') : BoxTI w W' v next iv :=
  have hl : w.heap.size < W.heap.size := Nat.lt_of_succ_lt h.lt
  ⟨h.bel.trans (hb.mono h.bel.size), Nat.lt_of_lt_of_le h.lt hb.size, (hb.cell hl).trans h.c0, (hb.cell hl).trans h.c1, (hb.cell h.lt).trans h.d0, (hb.cell h.lt).trans h.d1, (hb.cell h.lt).trans h.d2⟩
/-- The same while rows that were made behind them grow. -/
theorem BoxTI.belowStep {w W W' : World} {v : Value} {next : Int} {iv : Ivl} {B : Nat} (h : BoxTI w W v next iv) (hb : Below B W W') (hB : w.heap.size + 2 ≤ B) : BoxTI w W' v next iv :=
  ⟨h.bel.trans (hb.mono (by omega)), Nat.lt_of_lt_of_le h.lt hb.size, (hb.cell (by simp; omega)).trans h.c0, (hb.cell (by simp; omega)).trans h.c1, (hb.cell (by simp; omega)).trans h.d0, (hb.cell (by simp; omega)).trans h.d1, (hb.cell (by simp; omega)).trans h.d2⟩

theorem take_one (f : List Pg) (k : Nat) (h : k < f.length) : (f.drop k).take 1 = [f[k]] := by rw [drop_cons f k h]; rfl
/-- The filter of the first j of a page's entries. -/
def filt (iv : Ivl) (l : List Ent) (j : Nat) : List Ent := (l.take j).filter fun e => hasI iv e.key
theorem filt_yes (iv : Ivl) (l : List Ent) (j : Nat) (h : j < l.length) (hh : hasI iv l[j].key = true) : filt iv l (j + 1) = filt iv l j ++ [l[j]] := by
  unfold filt; rw [List.take_succ_eq_append_getElem h, List.filter_append]; simp [hh]
theorem filt_no (iv : Ivl) (l : List Ent) (j : Nat) (h : j < l.length) (hh : hasI iv l[j].key = false) : filt iv l (j + 1) = filt iv l j := by
  unfold filt; rw [List.take_succ_eq_append_getElem h, List.filter_append]; simp [hh]
theorem filt_all (iv : Ivl) (l : List Ent) (j : Nat) (h : l.length ≤ j) : filt iv l j = l.filter fun e => hasI iv e.key := by unfold filt; rw [List.take_of_length_le h]
theorem filt_len (iv : Ivl) (l : List Ent) (j : Nat) : (filt iv l j).length ≤ j := by
  unfold filt; exact Nat.le_trans (List.length_filter_le _ _) (by rw [List.length_take]; omega)
theorem entsOf_len (iv : Ivl) : ∀ (ps : List Pg), (∀ p ∈ ps, p.es.length ≤ 4) → (entsOf iv ps).length ≤ 4 * ps.length
  | [], _ => by simp [entsOf]
  | p :: t, h => by
    have e : p :: t = [p] ++ t := rfl
    rw [e, entsOf_app, entsOf_one, List.length_append, List.length_append]
    have h1 := entsOf_len iv t (fun q hq => h q (List.mem_cons_of_mem _ hq))
    have h2 := h p (List.mem_cons_self ..)
    have h3 := List.length_filter_le (fun e : Ent => hasI iv e.key) p.es
    simp only [List.length_cons, List.length_nil]; omega

end Go.Proofs.Ytnmpfooegnmknaa.Tr

/- What the specification's range of a tree answers. -/
namespace Go.Proofs.Ytnmpfooegnmknaa.Tr
open Go.RowKit
set_option linter.unusedVariables false

/-- The pages that are still to be walked at place k. -/
def tailR (f : List Pg) (iv : Ivl) (lo k : Nat) : List Pg := if k = lo then (f.drop k).take 1 ++ (f.drop (k + 1)).takeWhile (goB iv) else (f.drop k).takeWhile (goB iv)
theorem tailR_lo (f : List Pg) (iv : Ivl) : overP f iv = [] ++ tailR f iv (loP f iv) (loP f iv) := by unfold overP tailR; rw [if_pos rfl]; rfl
theorem tailR_step (f : List Pg) (iv : Ivl) (lo k : Nat) (h : k < f.length) (hl : lo ≤ k) (hg : k = lo ∨ goB iv f[k] = true) : tailR f iv lo k = [f[k]] ++ tailR f iv lo (k + 1) := by
  unfold tailR
  rw [if_neg (show ¬ k + 1 = lo by omega)]
  by_cases e : k = lo
  · rw [if_pos e, take_one f k h]
  · rw [if_neg e, over_step iv f k h, if_pos (hg.resolve_left e)]; rfl
theorem tailR_stop (f : List Pg) (iv : Ivl) (lo k : Nat) (h : k < f.length) (hl : k ≠ lo) (hg : goB iv f[k] = false) : tailR f iv lo k = [] := by
  unfold tailR
  rw [if_neg hl, over_step iv f k h, if_neg (by rw [hg]; simp)]
theorem tailR_end (f : List Pg) (iv : Ivl) (lo k : Nat) (h : f.length ≤ k) (hl : k ≠ lo) : tailR f iv lo k = [] := by
  unfold tailR
  rw [if_neg hl, List.drop_of_length_le h]; rfl
theorem int_owns {w : World} {base n : Nat} {v : Value} {xs : List Value} (h : w.ownsRow base 3 1 v n xs) : xs.length = n := by have := h.1; omega

set_option maxRecDepth 4000 in
set_option maxHeartbeats 4000000 in
theorem specRange_any (p : Option Addr) (cap : Nat) (f : List Pg) (next : Int) (iv : Ivl) (w : World) (hr : RowP w p f) (h1 : 1 ≤ f.length) (hl : f.length ≤ 60) (hs : ∀ l ∈ f, l.es.length ≤ 4) (hne : 1 < f.length → ∀ l ∈ f, 0 < l.es.length) :
    Calls Try.prog 63 #[.agg #[.slice p f.length cap, .int .i64 next], .agg #[.string iv.lo, .string iv.hi, .bool iv.op]] w fun e w' => (∃ v1 v2, e = .returned (.tuple #[v1, v2]) ∧ OwnE w' w.heap.size v1 (entsOf iv (overP f iv)) ∧ w'.ownsRow w.heap.size 3 1 v2 (overP f iv).length (intsV (numsOf (overP f iv)))) ∧ Below w.heap.size w w' := by
  obtain ⟨iE, hiE, hzE0, hzE1, hzE2⟩ := info_parts infoE
  obtain ⟨iI, hiI, hzI0, hzI1, hzI2⟩ := info_parts infoI
  have X0 := BoxTI.start w (.slice p f.length cap) next iv 37 52
  have HR : Hid (RowP _ _ _) := hr
  have HS : Hid _ := hs
  have HNE : Hid _ := hne
  have hplc := place_lt f ⟨iv.lo, -1⟩ (by omega)
  have hPL : ∀ W : World, Below w.heap.size w W → Calls Try.prog 59 #[.agg #[.slice p f.length cap, .int .i64 next], .agg #[.string iv.lo, .int .i64 (-1)]] W fun e w' => e = .returned (.int .i64 (loP f iv : Nat)) ∧ Below W.heap.size W w' := fun W hW => specPlace_any p cap f next ⟨iv.lo, -1⟩ W (hr.next hW) (by omega) h1 (fun l hm => by have := hs l hm; omega)
  have hov := tailR_lo f iv
  obtain ⟨lo, hlo⟩ : ∃ lo, lo = loP f iv := ⟨_, rfl⟩
  have hlolt : lo < f.length := by rw [hlo]; exact hplc
  rw [← hlo] at hPL hov
  have HPL : Hid (∀ W : World, Below w.heap.size w W → Calls _ _ _ W _) := hPL
  have HOV : Hid _ := hov
  clear hr hs hne hplc hPL hov hlo
  go_enter Try.func63, Try.ntmps63
  go_wp2_with fail
  have hbA : Below (w.heap.size + 2) ((w.alloc (.cells #[.slice p f.length cap, .int .i64 next] 37)).alloc (.cells #[.string iv.lo, .string iv.hi, .bool iv.op] 52)) ((((w.alloc (.cells #[.slice p f.length cap, .int .i64 next] 37)).alloc (.cells #[.string iv.lo, .string iv.hi, .bool iv.op] 52)).alloc (.cells #[] 40)).alloc (.cells #[] 3)) := ((Below.refl _ _).alloc (by simp) _).alloc (by simp) _
  have X1 := X0.belowStep hbA (Nat.le_refl _)
  have hO1 : OwnE ((((w.alloc (.cells #[.slice p f.length cap, .int .i64 next] 37)).alloc (.cells #[.string iv.lo, .string iv.hi, .bool iv.op] 52)).alloc (.cells #[] 40)).alloc (.cells #[] 3)) (w.heap.size + 2) (.slice (some ⟨w.heap.size + 1 + 1, 0, none⟩) 0 0) [] := by
    have h := World.ownsRow.alloc (World.ownsRow_made (size := 2) (base := w.heap.size + 2) (e := 40) ((w.alloc (.cells #[.slice p f.length cap, .int .i64 next] 37)).alloc (.cells #[.string iv.lo, .string iv.hi, .bool iv.op] 52)) #[] 0 (by simp) (by unfold maxLen; omega) rfl) (.cells #[] 3)
    simp at h
    exact h
  have hO2 : World.ownsRow ((((w.alloc (.cells #[.slice p f.length cap, .int .i64 next] 37)).alloc (.cells #[.string iv.lo, .string iv.hi, .bool iv.op] 52)).alloc (.cells #[] 40)).alloc (.cells #[] 3)) (w.heap.size + 2) 3 1 (.slice (some ⟨w.heap.size + 1 + 1 + 1, 0, none⟩) 0 0) 0 [] := by
    have h := World.ownsRow_made (size := 1) (base := w.heap.size + 2) (e := 3) (((w.alloc (.cells #[.slice p f.length cap, .int .i64 next] 37)).alloc (.cells #[.string iv.lo, .string iv.hi, .bool iv.op] 52)).alloc (.cells #[] 40)) #[] 0 (by simp) (by unfold maxLen; omega) rfl
    simpa using h
  generalize ((((w.alloc (.cells #[.slice p f.length cap, .int .i64 next] 37)).alloc (.cells #[.string iv.lo, .string iv.hi, .bool iv.op] 52)).alloc (.cells #[] 40)).alloc (.cells #[] 3)) = W1 at X1 hO1 hO2 ⊢
  refine (HPL.out _ X1.bel).mono ?_
  rintro e w2 ⟨rfl, hb2⟩
  have X2 := X1.step hb2
  have HO1 : Hid (OwnE _ _ _ _) := owns_below hO1 hb2
  have HO2 : Hid (World.ownsRow _ _ _ _ _ _ _) := owns_below hO2 hb2
  clear hbA X0 X1 hO1 hO2 hb2
  go_wp2_with fail
  go_loopw [6, 7, 9] (fun v1 v2 i wr => ∃ (k : Nat) (D : List Pg), lo ≤ k ∧ k ≤ f.length ∧ i = .int .i64 k ∧ D.length + lo = k ∧ (∀ q ∈ D, q ∈ f) ∧ overP f iv = D ++ tailR f iv lo k ∧ OwnE wr (w.heap.size + 2) v1 (entsOf iv D) ∧ wr.ownsRow (w.heap.size + 2) 3 1 v2 D.length (intsV (numsOf D)) ∧ BoxTI w wr (.slice p f.length cap) next iv) (fun _ _ i _ => f.length - (intOf i).toNat)
  case atStart => exact ⟨lo, [], Nat.le_refl _, Nat.le_of_lt hlolt, rfl, by simp, (fun q hq => by simp at hq), HOV.out, HO1.out, HO2.out, X2⟩
  case round =>
    obtain ⟨k, D, hlk, hk, rfl, hDl, hDf, hDo, hO1, hO2, X⟩ := hrel
    have HO1' : Hid (OwnE _ _ _ _) := hO1
    have HO2' : Hid (World.ownsRow _ _ _ _ _ _ _) := hO2
    have HDF : Hid _ := hDf
    have HDO : Hid _ := hDo
    have HDL : Hid _ := hDl
    have hDl' : D.length ≤ 60 := by omega
    have hz := X.lt
    obtain ⟨xb, xl, c0, c1, d0, d1, d2⟩ := X
    clear hO1 hO2 hDf hDo hDl HO1 HO2 X2 HOV
    by_cases hlt : k < f.length
    · rcases HR.out.next xb with h0 | ⟨g, rfl, R1⟩
      · subst h0; simp at hlt
      obtain ⟨x0, pa, ca, x1, t1⟩ := R1.cells k hlt
      have hlt2 : (k : Int) < (f.length : Int) := by omega
      have h4 := HS.out f[k] (List.getElem_mem _)
      have HT : Hid (InE _ _ _) := t1
      have HRD : Hid (ReadP _ _ _) := R1
      have HIW : Hid (InE w pa f[k].es) := by
        rcases HR.out with h0 | ⟨g', hg', R0⟩
        · subst h0; simp at hlt
        · injection hg' with hg'; injection hg' with hg'; subst hg'
          obtain ⟨_, pb, cb, z1, z2⟩ := R0.cells k hlt
          rw [xb.cell R0.lt, z1] at x1
          injection x1 with x1; injection x1 with x1 _ _; subst x1
          exact z2
      have hnu : Nonempty (Under wr) := ⟨⟨wr, Below.refl _ _⟩⟩
      have u0 : ∀ u : Under wr, u.x.cell? ⟨w.heap.size + 1, 1, none⟩ = some (.string iv.hi) := fun u => (u.h.cell xl).trans d1
      have u1 : ∀ u : Under wr, u.x.cell? ⟨w.heap.size + 1, 2, none⟩ = some (.bool iv.op) := fun u => (u.h.cell xl).trans d2
      clear R1 t1
      by_cases hkl : k = lo
      · have HST : Hid (tailR f iv lo k = [f[k]] ++ tailR f iv lo (k + 1)) := tailR_step f iv lo k hlt hlk (.inl hkl)
        have hd : decide (lo < k) = false := decide_eq_false (by omega)
        clear hkl
        have u2 : True := trivial
        have u3 : True := trivial
        go_wp2_with fail
        refine wp_region_under (by kernel_rfl) (by kernel_rfl) ?_
        repeat (go_big_quiet_step (fail))
        refine wpQuiet_nil ?_
        rintro _ ⟨u, rfl⟩
        have hO1u := owns_below HO1'.out u.h
        have hO2u := owns_below HO2'.out u.h
        have HXu : Hid (BoxTI _ _ _ _ _) := (BoxTI.mk xb xl c0 c1 d0 d1 d2).step u.h
        have HRu : Hid (ReadP _ _ _) := HRD.out.next u.h
        have c0u := HXu.out.c0
        have x0u := (u.h.cell HRD.out.lt).trans x0
        have hzu := u.h.size
        have hltu := HXu.out.lt
        have HTu : Hid (InE _ _ _) := HT.out.step u.h
        generalize u.x = U at hO1u hO2u HXu HRu c0u x0u hzu hltu HTu ⊢
        clear u0 u1 u2 u3
        go_wp2_with (at_builtin; refine wpList_append_own_at _ rfl (.tmp 55) (.tmp 62) 48 rfl (w.heap.size + 2) 3 iI (.int .i64 0) 1 8 Try.underlying48 hiI hzI0 hzI1 hzI2 rfl (by decide) _ _ _ rfl (hO2u.alloc _) ⟨U.heap.size, 0, none⟩ 1 1 [.int .i64 f[k].num] rfl rfl (cell_one_new _ _ _) ?c2 ?c3 ?c4 ?c5 ?_)
        case c2 => intro q hq; simp at hq; subst hq; rfl
        case c3 => unfold maxLen; omega
        case c4 => omega
        case c5 => simp; omega
        intro v2' w3 hO2v hg3 hnv hat
        have hO1v := World.ownsRow.kept (World.ownsRow.alloc hO1u (.cells #[.int .i64 f[k].num] 3)) hg3 (owns_types (World.ownsRow.alloc hO1u (.cells #[.int .i64 f[k].num] 3)) (World.ownsRow.alloc hO2u (.cells #[.int .i64 f[k].num] 3)) tne)
        have B3 : Below (w.heap.size + 2) U w3 := Below.grown ((Below.refl _ U).alloc (by omega) (.cells #[.int .i64 f[k].num] 3)) hg3 (by simp; omega) (fun b hb => (hO2u.lt b hb).1)
        have HX3 : Hid (BoxTI _ _ _ _ _) := HXu.out.belowStep B3 (Nat.le_refl _)
        have HO2n : Hid (World.ownsRow w3 (w.heap.size + 2) 3 1 v2' (D ++ [f[k]]).length (intsV (numsOf (D ++ [f[k]])))) := by rw [numsOf_app, intsV_app, List.length_append]; exact hO2v
        have HO1n : Hid (OwnE w3 (w.heap.size + 2) _ (entsOf iv D)) := hO1v
        have HIN : Hid (InE _ _ _) := HIW.out
        have hel := entsOf_len iv D (fun q hq => HS.out q (HDF.out q hq))
        clear hg3 hO1u hO2u hO1v hO2v hnv hat B3 x0u c0u HTu HRu HXu
        go_wp2_with fail
        go_loopw [6, 11] (fun v1 i wq => ∃ j : Nat, j ≤ f[k].es.length ∧ i = .int .i64 j ∧ OwnE wq (w.heap.size + 2) v1 (entsOf iv D ++ filt iv f[k].es j) ∧ wq.ownsRow (w.heap.size + 2) 3 1 v2' (D ++ [f[k]]).length (intsV (numsOf (D ++ [f[k]]))) ∧ BoxTI w wq (.slice (some ⟨g, 0, none⟩) f.length cap) next iv) (fun _ i _ => f[k].es.length - (intOf i).toNat)
        case atStart => exact ⟨0, Nat.zero_le _, rfl, by rw [show filt iv f[k].es 0 = [] from rfl, List.append_nil]; exact HO1n.out, HO2n.out, HX3.out⟩
        case round =>
          obtain ⟨j, hj, rfl, hO1, hO2, X⟩ := hrel
          have HO1 : Hid (OwnE _ _ _ _) := hO1
          have HO2 : Hid (World.ownsRow _ _ _ _ _ _ _) := hO2
          have HX : Hid (BoxTI _ _ _ _ _) := X
          have hzq := X.lt
          have hfl := filt_len iv f[k].es j
          clear hO1 hO2 HO1n HO2n HX3
          by_cases hjl : j < f[k].es.length
          · have hjl2 : (j : Int) < (f[k].es.length : Int) := by omega
            rcases HIN.out.step X.bel with h0 | ⟨b, off, hpa, hbl, hc⟩
            · omega
            cases hpa
            obtain ⟨y0, y1⟩ := hc j hjl
            obtain ⟨en, hen⟩ : ∃ en, en = f[k].es[j] := ⟨_, rfl⟩
            have hyes := filt_yes iv f[k].es j hjl
            have hno := filt_no iv f[k].es j hjl
            rw [← hen] at y0 y1 hyes hno
            have HYES : Hid _ := hyes
            have HNO : Hid _ := hno
            have r0 : ∀ u : Under wr, u.x.cell? ⟨w.heap.size + 1, 0, none⟩ = some (.string iv.lo) := fun u => (u.h.cell hzq).trans X.d0
            have r1 : ∀ u : Under wr, u.x.cell? ⟨w.heap.size + 1, 1, none⟩ = some (.string iv.hi) := fun u => (u.h.cell hzq).trans X.d1
            have r2 : ∀ u : Under wr, u.x.cell? ⟨w.heap.size + 1, 2, none⟩ = some (.bool iv.op) := fun u => (u.h.cell hzq).trans X.d2
            have r3 := fun u : Under wr => (u.h.cell hbl).trans y0
            have r4 := fun u : Under wr => (u.h.cell hbl).trans y1
            have HH0 := fun u : Under wr => l04Has_any iv.lo iv.hi iv.op en.key u.x
            have hnu : Nonempty (Under wr) := ⟨⟨wr, Below.refl _ _⟩⟩
            clear hc y0 y1 hen hyes hno X
            cases hH : hasI iv en.key
            · rw [show hasI ⟨iv.lo, iv.hi, iv.op⟩ en.key = false from hH] at HH0
              have HH : Hid (∀ u : Under wr, Calls _ _ _ u.x _) := HH0
              have HN : Hid (filt iv f[k].es (j + 1) = filt iv f[k].es j) := HNO.out hH
              clear HH0 hH
              go_wp2_with fail
              refine wp_region_under (by kernel_rfl) (by kernel_rfl) ?_
              repeat (go_big_quiet_step ((go_at_call 106; exact calls_under _ (HH.out _))))
              refine wpQuiet_nil ?_
              rintro _ ⟨u, rfl⟩
              go_wp2_with fail
              go_roundw
              case rel => exact ⟨j + 1, by omega, by go_num, by rw [HN.out]; exact owns_below HO1.out u.h, owns_below HO2.out u.h, HX.out.step u.h⟩
              case measure => simp [intOf]; omega
            · rw [show hasI ⟨iv.lo, iv.hi, iv.op⟩ en.key = true from hH] at HH0
              have HH : Hid (∀ u : Under wr, Calls _ _ _ u.x _) := HH0
              have HN : Hid (filt iv f[k].es (j + 1) = filt iv f[k].es j ++ [en]) := HYES.out hH
              clear HH0 hH
              go_wp2_with fail
              refine wp_region_under (by kernel_rfl) (by kernel_rfl) ?_
              repeat (go_big_quiet_step ((go_at_call 106; exact calls_under _ (HH.out _))))
              refine wpQuiet_nil ?_
              rintro _ ⟨u, rfl⟩
              have e3 := r3 u
              have e4 := r4 u
              have hO1u := owns_below HO1.out u.h
              have hO2u := owns_below HO2.out u.h
              have HXu : Hid (BoxTI _ _ _ _ _) := HX.out.step u.h
              have hltu := HXu.out.lt
              generalize u.x = U2 at e3 e4 hO1u hO2u HXu hltu ⊢
              clear r0 r1 r2 r3 r4
              go_wp2_with (at_builtin; refine wpList_append_own_at _ rfl (.tmp 77) (.tmp 82) 47 rfl (w.heap.size + 2) 40 iE (.agg #[.string em, .int .i64 0]) 2 24 Try.underlying47 hiE hzE0 hzE1 hzE2 rfl (by decide) _ _ _ rfl (hO1u.alloc _) ⟨U2.heap.size, 0, none⟩ 1 1 [.string en.key, .int .i64 en.id] rfl rfl ?c1 ?c2 ?c3 ?c4 ?c5 ?_)
              case c1 =>
                intro j' x hj'
                match j', hj' with
                | 0, hj' => simp at hj'; subst hj'; simp [Addr.add, go_sem]
                | 1, hj' => simp at hj'; subst hj'; simp [Addr.add, go_sem]
                | j' + 2, hj' => simp at hj'
              case c2 => intro x hx; simp at hx; rcases hx with rfl | rfl <;> rfl
              case c3 => rw [List.length_append]; unfold maxLen; omega
              case c4 => rw [List.length_append]; omega
              case c5 => simp; omega
              intro v1' w4 hO1v hg4 hnv hat
              have hO2v := World.ownsRow.kept (World.ownsRow.alloc hO2u (.cells #[.string en.key, .int .i64 en.id] 40)) hg4 (owns_types (World.ownsRow.alloc hO2u (.cells #[.string en.key, .int .i64 en.id] 40)) (World.ownsRow.alloc hO1u (.cells #[.string en.key, .int .i64 en.id] 40)) tne')
              have B4 : Below (w.heap.size + 2) U2 w4 := Below.grown ((Below.refl _ U2).alloc (by omega) (.cells #[.string en.key, .int .i64 en.id] 40)) hg4 (by simp; omega) (fun b hb => (hO1u.lt b hb).1)
              have HX4 : Hid (BoxTI _ _ _ _ _) := HXu.out.belowStep B4 (Nat.le_refl _)
              have hO1w : OwnE w4 (w.heap.size + 2) v1' (entsOf iv D ++ filt iv f[k].es (j + 1)) := by
                rw [HN.out, ← List.append_assoc]
                unfold OwnE
                rw [flatE_snoc, List.length_append, List.length_append]
                exact hO1v
              have HO1w : Hid (OwnE _ _ _ _) := hO1w
              have HO2w : Hid (World.ownsRow _ _ _ _ _ _ _) := hO2v
              clear hg4 hO1u hO2u hO1v hO2v hnv hat B4 hO1w
              go_wp2_with fail
              go_roundw
              case rel => exact ⟨j + 1, by omega, by go_num, HO1w.out, HO2w.out, HX4.out⟩
              case measure => simp [intOf]; omega
          · have hjl2 : ¬ (j : Int) < (f[k].es.length : Int) := by omega
            have HFA : Hid (filt iv f[k].es j = f[k].es.filter fun e => hasI iv e.key) := filt_all iv f[k].es j (by omega)
            go_wp2_with fail
            go_roundw
            case rel =>
              refine ⟨k + 1, D ++ [f[k]], by omega, by omega, by go_num, by rw [List.length_append]; have := HDL.out; simp; omega, ?_, ?_, ?_, HO2.out, X⟩
              · intro q hq
                rcases List.mem_append.mp hq with h | h
                · exact HDF.out q h
                · rw [List.mem_singleton.mp h]; exact List.getElem_mem _
              · rw [List.append_assoc, ← HST.out]; exact HDO.out
              · rw [entsOf_app, entsOf_one, ← HFA.out]; exact HO1.out
            case measure => simp [intOf]; omega
      · have hd : decide (lo < k) = true := decide_eq_true (by omega)
        have hz1 : 0 < f[k].es.length := HNE.out (by omega) f[k] (List.getElem_mem _)
        have hgs := goB_some (iv := iv) hz1
        rcases HT.out with h0 | ⟨b0, o0, rfl, hb0l, hc0⟩
        · omega
        obtain ⟨y0, _⟩ := hc0 0 hz1
        obtain ⟨fe, hfe⟩ : ∃ fe, fe = f[k].es[0] := ⟨_, rfl⟩
        rw [← hfe] at y0 hgs
        have u2 : ∀ u : Under wr, u.x.cell? ⟨b0, o0, none⟩ = some (.string fe.key) := fun u => (u.h.cell hb0l).trans y0
        have hzd : decide (0 < f[k].es.length) = true := decide_eq_true hz1
        have hzi : 0 < (f[k].es.length : Int) := by omega
        clear hc0 hfe y0
        cases hop : iv.op
        · rw [hop] at u1 hgs
          cases hL : Op.bytesLess fe.key.toList iv.hi.toList
          · rw [hL] at hgs
            have hstop := tailR_stop f iv lo k hlt hkl hgs
            have HFIN : Hid (overP f iv = D) := HDO.out.trans (by rw [hstop, List.append_nil])
            clear hstop hgs
            go_wp2_with fail
            refine wp_region_under (by kernel_rfl) (by kernel_rfl) ?_
            repeat (go_big_quiet_step (fail))
            refine wpQuiet_nil ?_
            rintro _ ⟨u, rfl⟩
            have hO1u := owns_below HO1'.out u.h
            have hO2u := owns_below HO2'.out u.h
            have Bu := xb.trans (u.h.mono xb.size)
            have HP1 : Hid (OwnE _ _ _ _) := owns_mono hO1u (show w.heap.size ≤ w.heap.size + 2 by omega)
            have HP2 : Hid (World.ownsRow _ _ _ _ _ _ _) := owns_mono hO2u (show w.heap.size ≤ w.heap.size + 2 by omega)
            clear hO1u hO2u
            go_wp2_with fail
            go_ret2
            exact ⟨⟨_, _, rfl, by rw [HFIN.out]; exact HP1.out, by rw [HFIN.out]; exact HP2.out⟩, Bu⟩
          · rw [hL] at hgs
            have HST : Hid (tailR f iv lo k = [f[k]] ++ tailR f iv lo (k + 1)) := tailR_step f iv lo k hlt hlk (.inr hgs)
            have u3 : True := trivial
            clear hgs hop
            go_wp2_with fail
            refine wp_region_under (by kernel_rfl) (by kernel_rfl) ?_
            repeat (go_big_quiet_step (fail))
            refine wpQuiet_nil ?_
            rintro _ ⟨u, rfl⟩
            have hO1u := owns_below HO1'.out u.h
            have hO2u := owns_below HO2'.out u.h
            have HXu : Hid (BoxTI _ _ _ _ _) := (BoxTI.mk xb xl c0 c1 d0 d1 d2).step u.h
            have HRu : Hid (ReadP _ _ _) := HRD.out.next u.h
            have c0u := HXu.out.c0
            have x0u := (u.h.cell HRD.out.lt).trans x0
            have hzu := u.h.size
            have hltu := HXu.out.lt
            have HTu : Hid (InE _ _ _) := HT.out.step u.h
            generalize u.x = U at hO1u hO2u HXu HRu c0u x0u hzu hltu HTu ⊢
            clear u0 u1 u2 u3
            go_wp2_with (at_builtin; refine wpList_append_own_at _ rfl (.tmp 55) (.tmp 62) 48 rfl (w.heap.size + 2) 3 iI (.int .i64 0) 1 8 Try.underlying48 hiI hzI0 hzI1 hzI2 rfl (by decide) _ _ _ rfl (hO2u.alloc _) ⟨U.heap.size, 0, none⟩ 1 1 [.int .i64 f[k].num] rfl rfl (cell_one_new _ _ _) ?c2 ?c3 ?c4 ?c5 ?_)
            case c2 => intro q hq; simp at hq; subst hq; rfl
            case c3 => unfold maxLen; omega
            case c4 => omega
            case c5 => simp; omega
            intro v2' w3 hO2v hg3 hnv hat
            have hO1v := World.ownsRow.kept (World.ownsRow.alloc hO1u (.cells #[.int .i64 f[k].num] 3)) hg3 (owns_types (World.ownsRow.alloc hO1u (.cells #[.int .i64 f[k].num] 3)) (World.ownsRow.alloc hO2u (.cells #[.int .i64 f[k].num] 3)) tne)
            have B3 : Below (w.heap.size + 2) U w3 := Below.grown ((Below.refl _ U).alloc (by omega) (.cells #[.int .i64 f[k].num] 3)) hg3 (by simp; omega) (fun b hb => (hO2u.lt b hb).1)
            have HX3 : Hid (BoxTI _ _ _ _ _) := HXu.out.belowStep B3 (Nat.le_refl _)
            have HO2n : Hid (World.ownsRow w3 (w.heap.size + 2) 3 1 v2' (D ++ [f[k]]).length (intsV (numsOf (D ++ [f[k]])))) := by rw [numsOf_app, intsV_app, List.length_append]; exact hO2v
            have HO1n : Hid (OwnE w3 (w.heap.size + 2) _ (entsOf iv D)) := hO1v
            have HIN : Hid (InE _ _ _) := HIW.out
            have hel := entsOf_len iv D (fun q hq => HS.out q (HDF.out q hq))
            clear hg3 hO1u hO2u hO1v hO2v hnv hat B3 x0u c0u HTu HRu HXu
            go_wp2_with fail
            go_loopw [6, 11] (fun v1 i wq => ∃ j : Nat, j ≤ f[k].es.length ∧ i = .int .i64 j ∧ OwnE wq (w.heap.size + 2) v1 (entsOf iv D ++ filt iv f[k].es j) ∧ wq.ownsRow (w.heap.size + 2) 3 1 v2' (D ++ [f[k]]).length (intsV (numsOf (D ++ [f[k]]))) ∧ BoxTI w wq (.slice (some ⟨g, 0, none⟩) f.length cap) next iv) (fun _ i _ => f[k].es.length - (intOf i).toNat)
            case atStart => exact ⟨0, Nat.zero_le _, rfl, by rw [show filt iv f[k].es 0 = [] from rfl, List.append_nil]; exact HO1n.out, HO2n.out, HX3.out⟩
            case round =>
              obtain ⟨j, hj, rfl, hO1, hO2, X⟩ := hrel
              have HO1 : Hid (OwnE _ _ _ _) := hO1
              have HO2 : Hid (World.ownsRow _ _ _ _ _ _ _) := hO2
              have HX : Hid (BoxTI _ _ _ _ _) := X
              have hzq := X.lt
              have hfl := filt_len iv f[k].es j
              clear hO1 hO2 HO1n HO2n HX3
              by_cases hjl : j < f[k].es.length
              · have hjl2 : (j : Int) < (f[k].es.length : Int) := by omega
                rcases HIN.out.step X.bel with h0 | ⟨b, off, hpa, hbl, hc⟩
                · omega
                cases hpa
                obtain ⟨y0, y1⟩ := hc j hjl
                obtain ⟨en, hen⟩ : ∃ en, en = f[k].es[j] := ⟨_, rfl⟩
                have hyes := filt_yes iv f[k].es j hjl
                have hno := filt_no iv f[k].es j hjl
                rw [← hen] at y0 y1 hyes hno
                have HYES : Hid _ := hyes
                have HNO : Hid _ := hno
                have r0 : ∀ u : Under wr, u.x.cell? ⟨w.heap.size + 1, 0, none⟩ = some (.string iv.lo) := fun u => (u.h.cell hzq).trans X.d0
                have r1 : ∀ u : Under wr, u.x.cell? ⟨w.heap.size + 1, 1, none⟩ = some (.string iv.hi) := fun u => (u.h.cell hzq).trans X.d1
                have r2 : ∀ u : Under wr, u.x.cell? ⟨w.heap.size + 1, 2, none⟩ = some (.bool iv.op) := fun u => (u.h.cell hzq).trans X.d2
                have r3 := fun u : Under wr => (u.h.cell hbl).trans y0
                have r4 := fun u : Under wr => (u.h.cell hbl).trans y1
                have HH0 := fun u : Under wr => l04Has_any iv.lo iv.hi iv.op en.key u.x
                have hnu : Nonempty (Under wr) := ⟨⟨wr, Below.refl _ _⟩⟩
                clear hc y0 y1 hen hyes hno X
                cases hH : hasI iv en.key
                · rw [show hasI ⟨iv.lo, iv.hi, iv.op⟩ en.key = false from hH] at HH0
                  have HH : Hid (∀ u : Under wr, Calls _ _ _ u.x _) := HH0
                  have HN : Hid (filt iv f[k].es (j + 1) = filt iv f[k].es j) := HNO.out hH
                  clear HH0 hH
                  go_wp2_with fail
                  refine wp_region_under (by kernel_rfl) (by kernel_rfl) ?_
                  repeat (go_big_quiet_step ((go_at_call 106; exact calls_under _ (HH.out _))))
                  refine wpQuiet_nil ?_
                  rintro _ ⟨u, rfl⟩
                  go_wp2_with fail
                  go_roundw
                  case rel => exact ⟨j + 1, by omega, by go_num, by rw [HN.out]; exact owns_below HO1.out u.h, owns_below HO2.out u.h, HX.out.step u.h⟩
                  case measure => simp [intOf]; omega
                · rw [show hasI ⟨iv.lo, iv.hi, iv.op⟩ en.key = true from hH] at HH0
                  have HH : Hid (∀ u : Under wr, Calls _ _ _ u.x _) := HH0
                  have HN : Hid (filt iv f[k].es (j + 1) = filt iv f[k].es j ++ [en]) := HYES.out hH
                  clear HH0 hH
                  go_wp2_with fail
                  refine wp_region_under (by kernel_rfl) (by kernel_rfl) ?_
                  repeat (go_big_quiet_step ((go_at_call 106; exact calls_under _ (HH.out _))))
                  refine wpQuiet_nil ?_
                  rintro _ ⟨u, rfl⟩
                  have e3 := r3 u
                  have e4 := r4 u
                  have hO1u := owns_below HO1.out u.h
                  have hO2u := owns_below HO2.out u.h
                  have HXu : Hid (BoxTI _ _ _ _ _) := HX.out.step u.h
                  have hltu := HXu.out.lt
                  generalize u.x = U2 at e3 e4 hO1u hO2u HXu hltu ⊢
                  clear r0 r1 r2 r3 r4
                  go_wp2_with (at_builtin; refine wpList_append_own_at _ rfl (.tmp 77) (.tmp 82) 47 rfl (w.heap.size + 2) 40 iE (.agg #[.string em, .int .i64 0]) 2 24 Try.underlying47 hiE hzE0 hzE1 hzE2 rfl (by decide) _ _ _ rfl (hO1u.alloc _) ⟨U2.heap.size, 0, none⟩ 1 1 [.string en.key, .int .i64 en.id] rfl rfl ?c1 ?c2 ?c3 ?c4 ?c5 ?_)
                  case c1 =>
                    intro j' x hj'
                    match j', hj' with
                    | 0, hj' => simp at hj'; subst hj'; simp [Addr.add, go_sem]
                    | 1, hj' => simp at hj'; subst hj'; simp [Addr.add, go_sem]
                    | j' + 2, hj' => simp at hj'
                  case c2 => intro x hx; simp at hx; rcases hx with rfl | rfl <;> rfl
                  case c3 => rw [List.length_append]; unfold maxLen; omega
                  case c4 => rw [List.length_append]; omega
                  case c5 => simp; omega
                  intro v1' w4 hO1v hg4 hnv hat
                  have hO2v := World.ownsRow.kept (World.ownsRow.alloc hO2u (.cells #[.string en.key, .int .i64 en.id] 40)) hg4 (owns_types (World.ownsRow.alloc hO2u (.cells #[.string en.key, .int .i64 en.id] 40)) (World.ownsRow.alloc hO1u (.cells #[.string en.key, .int .i64 en.id] 40)) tne')
                  have B4 : Below (w.heap.size + 2) U2 w4 := Below.grown ((Below.refl _ U2).alloc (by omega) (.cells #[.string en.key, .int .i64 en.id] 40)) hg4 (by simp; omega) (fun b hb => (hO1u.lt b hb).1)
                  have HX4 : Hid (BoxTI _ _ _ _ _) := HXu.out.belowStep B4 (Nat.le_refl _)
                  have hO1w : OwnE w4 (w.heap.size + 2) v1' (entsOf iv D ++ filt iv f[k].es (j + 1)) := by
                    rw [HN.out, ← List.append_assoc]
                    unfold OwnE
                    rw [flatE_snoc, List.length_append, List.length_append]
                    exact hO1v
                  have HO1w : Hid (OwnE _ _ _ _) := hO1w
                  have HO2w : Hid (World.ownsRow _ _ _ _ _ _ _) := hO2v
                  clear hg4 hO1u hO2u hO1v hO2v hnv hat B4 hO1w
                  go_wp2_with fail
                  go_roundw
                  case rel => exact ⟨j + 1, by omega, by go_num, HO1w.out, HO2w.out, HX4.out⟩
                  case measure => simp [intOf]; omega
              · have hjl2 : ¬ (j : Int) < (f[k].es.length : Int) := by omega
                have HFA : Hid (filt iv f[k].es j = f[k].es.filter fun e => hasI iv e.key) := filt_all iv f[k].es j (by omega)
                go_wp2_with fail
                go_roundw
                case rel =>
                  refine ⟨k + 1, D ++ [f[k]], by omega, by omega, by go_num, by rw [List.length_append]; have := HDL.out; simp; omega, ?_, ?_, ?_, HO2.out, X⟩
                  · intro q hq
                    rcases List.mem_append.mp hq with h | h
                    · exact HDF.out q h
                    · rw [List.mem_singleton.mp h]; exact List.getElem_mem _
                  · rw [List.append_assoc, ← HST.out]; exact HDO.out
                  · rw [entsOf_app, entsOf_one, ← HFA.out]; exact HO1.out
                case measure => simp [intOf]; omega
        · rw [hop] at u1 hgs
          have HST : Hid (tailR f iv lo k = [f[k]] ++ tailR f iv lo (k + 1)) := tailR_step f iv lo k hlt hlk (.inr hgs)
          have u3 : True := trivial
          clear hgs hop
          go_wp2_with fail
          refine wp_region_under (by kernel_rfl) (by kernel_rfl) ?_
          repeat (go_big_quiet_step (fail))
          refine wpQuiet_nil ?_
          rintro _ ⟨u, rfl⟩
          have hO1u := owns_below HO1'.out u.h
          have hO2u := owns_below HO2'.out u.h
          have HXu : Hid (BoxTI _ _ _ _ _) := (BoxTI.mk xb xl c0 c1 d0 d1 d2).step u.h
          have HRu : Hid (ReadP _ _ _) := HRD.out.next u.h
          have c0u := HXu.out.c0
          have x0u := (u.h.cell HRD.out.lt).trans x0
          have hzu := u.h.size
          have hltu := HXu.out.lt
          have HTu : Hid (InE _ _ _) := HT.out.step u.h
          generalize u.x = U at hO1u hO2u HXu HRu c0u x0u hzu hltu HTu ⊢
          clear u0 u1 u2 u3
          go_wp2_with (at_builtin; refine wpList_append_own_at _ rfl (.tmp 55) (.tmp 62) 48 rfl (w.heap.size + 2) 3 iI (.int .i64 0) 1 8 Try.underlying48 hiI hzI0 hzI1 hzI2 rfl (by decide) _ _ _ rfl (hO2u.alloc _) ⟨U.heap.size, 0, none⟩ 1 1 [.int .i64 f[k].num] rfl rfl (cell_one_new _ _ _) ?c2 ?c3 ?c4 ?c5 ?_)
          case c2 => intro q hq; simp at hq; subst hq; rfl
          case c3 => unfold maxLen; omega
          case c4 => omega
          case c5 => simp; omega
          intro v2' w3 hO2v hg3 hnv hat
          have hO1v := World.ownsRow.kept (World.ownsRow.alloc hO1u (.cells #[.int .i64 f[k].num] 3)) hg3 (owns_types (World.ownsRow.alloc hO1u (.cells #[.int .i64 f[k].num] 3)) (World.ownsRow.alloc hO2u (.cells #[.int .i64 f[k].num] 3)) tne)
          have B3 : Below (w.heap.size + 2) U w3 := Below.grown ((Below.refl _ U).alloc (by omega) (.cells #[.int .i64 f[k].num] 3)) hg3 (by simp; omega) (fun b hb => (hO2u.lt b hb).1)
          have HX3 : Hid (BoxTI _ _ _ _ _) := HXu.out.belowStep B3 (Nat.le_refl _)
          have HO2n : Hid (World.ownsRow w3 (w.heap.size + 2) 3 1 v2' (D ++ [f[k]]).length (intsV (numsOf (D ++ [f[k]])))) := by rw [numsOf_app, intsV_app, List.length_append]; exact hO2v
          have HO1n : Hid (OwnE w3 (w.heap.size + 2) _ (entsOf iv D)) := hO1v
          have HIN : Hid (InE _ _ _) := HIW.out
          have hel := entsOf_len iv D (fun q hq => HS.out q (HDF.out q hq))
          clear hg3 hO1u hO2u hO1v hO2v hnv hat B3 x0u c0u HTu HRu HXu
          go_wp2_with fail
          go_loopw [6, 11] (fun v1 i wq => ∃ j : Nat, j ≤ f[k].es.length ∧ i = .int .i64 j ∧ OwnE wq (w.heap.size + 2) v1 (entsOf iv D ++ filt iv f[k].es j) ∧ wq.ownsRow (w.heap.size + 2) 3 1 v2' (D ++ [f[k]]).length (intsV (numsOf (D ++ [f[k]]))) ∧ BoxTI w wq (.slice (some ⟨g, 0, none⟩) f.length cap) next iv) (fun _ i _ => f[k].es.length - (intOf i).toNat)
          case atStart => exact ⟨0, Nat.zero_le _, rfl, by rw [show filt iv f[k].es 0 = [] from rfl, List.append_nil]; exact HO1n.out, HO2n.out, HX3.out⟩
          case round =>
            obtain ⟨j, hj, rfl, hO1, hO2, X⟩ := hrel
            have HO1 : Hid (OwnE _ _ _ _) := hO1
            have HO2 : Hid (World.ownsRow _ _ _ _ _ _ _) := hO2
            have HX : Hid (BoxTI _ _ _ _ _) := X
            have hzq := X.lt
            have hfl := filt_len iv f[k].es j
            clear hO1 hO2 HO1n HO2n HX3
            by_cases hjl : j < f[k].es.length
            · have hjl2 : (j : Int) < (f[k].es.length : Int) := by omega
              rcases HIN.out.step X.bel with h0 | ⟨b, off, hpa, hbl, hc⟩
              · omega
              cases hpa
              obtain ⟨y0, y1⟩ := hc j hjl
              obtain ⟨en, hen⟩ : ∃ en, en = f[k].es[j] := ⟨_, rfl⟩
              have hyes := filt_yes iv f[k].es j hjl
              have hno := filt_no iv f[k].es j hjl
              rw [← hen] at y0 y1 hyes hno
              have HYES : Hid _ := hyes
              have HNO : Hid _ := hno
              have r0 : ∀ u : Under wr, u.x.cell? ⟨w.heap.size + 1, 0, none⟩ = some (.string iv.lo) := fun u => (u.h.cell hzq).trans X.d0
              have r1 : ∀ u : Under wr, u.x.cell? ⟨w.heap.size + 1, 1, none⟩ = some (.string iv.hi) := fun u => (u.h.cell hzq).trans X.d1
              have r2 : ∀ u : Under wr, u.x.cell? ⟨w.heap.size + 1, 2, none⟩ = some (.bool iv.op) := fun u => (u.h.cell hzq).trans X.d2
              have r3 := fun u : Under wr => (u.h.cell hbl).trans y0
              have r4 := fun u : Under wr => (u.h.cell hbl).trans y1
              have HH0 := fun u : Under wr => l04Has_any iv.lo iv.hi iv.op en.key u.x
              have hnu : Nonempty (Under wr) := ⟨⟨wr, Below.refl _ _⟩⟩
              clear hc y0 y1 hen hyes hno X
              cases hH : hasI iv en.key
              · rw [show hasI ⟨iv.lo, iv.hi, iv.op⟩ en.key = false from hH] at HH0
                have HH : Hid (∀ u : Under wr, Calls _ _ _ u.x _) := HH0
                have HN : Hid (filt iv f[k].es (j + 1) = filt iv f[k].es j) := HNO.out hH
                clear HH0 hH
                go_wp2_with fail
                refine wp_region_under (by kernel_rfl) (by kernel_rfl) ?_
                repeat (go_big_quiet_step ((go_at_call 106; exact calls_under _ (HH.out _))))
                refine wpQuiet_nil ?_
                rintro _ ⟨u, rfl⟩
                go_wp2_with fail
                go_roundw
                case rel => exact ⟨j + 1, by omega, by go_num, by rw [HN.out]; exact owns_below HO1.out u.h, owns_below HO2.out u.h, HX.out.step u.h⟩
                case measure => simp [intOf]; omega
              · rw [show hasI ⟨iv.lo, iv.hi, iv.op⟩ en.key = true from hH] at HH0
                have HH : Hid (∀ u : Under wr, Calls _ _ _ u.x _) := HH0
                have HN : Hid (filt iv f[k].es (j + 1) = filt iv f[k].es j ++ [en]) := HYES.out hH
                clear HH0 hH
                go_wp2_with fail
                refine wp_region_under (by kernel_rfl) (by kernel_rfl) ?_
                repeat (go_big_quiet_step ((go_at_call 106; exact calls_under _ (HH.out _))))
                refine wpQuiet_nil ?_
                rintro _ ⟨u, rfl⟩
                have e3 := r3 u
                have e4 := r4 u
                have hO1u := owns_below HO1.out u.h
                have hO2u := owns_below HO2.out u.h
                have HXu : Hid (BoxTI _ _ _ _ _) := HX.out.step u.h
                have hltu := HXu.out.lt
                generalize u.x = U2 at e3 e4 hO1u hO2u HXu hltu ⊢
                clear r0 r1 r2 r3 r4
                go_wp2_with (at_builtin; refine wpList_append_own_at _ rfl (.tmp 77) (.tmp 82) 47 rfl (w.heap.size + 2) 40 iE (.agg #[.string em, .int .i64 0]) 2 24 Try.underlying47 hiE hzE0 hzE1 hzE2 rfl (by decide) _ _ _ rfl (hO1u.alloc _) ⟨U2.heap.size, 0, none⟩ 1 1 [.string en.key, .int .i64 en.id] rfl rfl ?c1 ?c2 ?c3 ?c4 ?c5 ?_)
                case c1 =>
                  intro j' x hj'
                  match j', hj' with
                  | 0, hj' => simp at hj'; subst hj'; simp [Addr.add, go_sem]
                  | 1, hj' => simp at hj'; subst hj'; simp [Addr.add, go_sem]
                  | j' + 2, hj' => simp at hj'
                case c2 => intro x hx; simp at hx; rcases hx with rfl | rfl <;> rfl
                case c3 => rw [List.length_append]; unfold maxLen; omega
                case c4 => rw [List.length_append]; omega
                case c5 => simp; omega
                intro v1' w4 hO1v hg4 hnv hat
                have hO2v := World.ownsRow.kept (World.ownsRow.alloc hO2u (.cells #[.string en.key, .int .i64 en.id] 40)) hg4 (owns_types (World.ownsRow.alloc hO2u (.cells #[.string en.key, .int .i64 en.id] 40)) (World.ownsRow.alloc hO1u (.cells #[.string en.key, .int .i64 en.id] 40)) tne')
                have B4 : Below (w.heap.size + 2) U2 w4 := Below.grown ((Below.refl _ U2).alloc (by omega) (.cells #[.string en.key, .int .i64 en.id] 40)) hg4 (by simp; omega) (fun b hb => (hO1u.lt b hb).1)
                have HX4 : Hid (BoxTI _ _ _ _ _) := HXu.out.belowStep B4 (Nat.le_refl _)
                have hO1w : OwnE w4 (w.heap.size + 2) v1' (entsOf iv D ++ filt iv f[k].es (j + 1)) := by
                  rw [HN.out, ← List.append_assoc]
                  unfold OwnE
                  rw [flatE_snoc, List.length_append, List.length_append]
                  exact hO1v
                have HO1w : Hid (OwnE _ _ _ _) := hO1w
                have HO2w : Hid (World.ownsRow _ _ _ _ _ _ _) := hO2v
                clear hg4 hO1u hO2u hO1v hO2v hnv hat B4 hO1w
                go_wp2_with fail
                go_roundw
                case rel => exact ⟨j + 1, by omega, by go_num, HO1w.out, HO2w.out, HX4.out⟩
                case measure => simp [intOf]; omega
            · have hjl2 : ¬ (j : Int) < (f[k].es.length : Int) := by omega
              have HFA : Hid (filt iv f[k].es j = f[k].es.filter fun e => hasI iv e.key) := filt_all iv f[k].es j (by omega)
              go_wp2_with fail
              go_roundw
              case rel =>
                refine ⟨k + 1, D ++ [f[k]], by omega, by omega, by go_num, by rw [List.length_append]; have := HDL.out; simp; omega, ?_, ?_, ?_, HO2.out, X⟩
                · intro q hq
                  rcases List.mem_append.mp hq with h | h
                  · exact HDF.out q h
                  · rw [List.mem_singleton.mp h]; exact List.getElem_mem _
                · rw [List.append_assoc, ← HST.out]; exact HDO.out
                · rw [entsOf_app, entsOf_one, ← HFA.out]; exact HO1.out
              case measure => simp [intOf]; omega
    · have hlt2 : ¬ (k : Int) < (f.length : Int) := by omega
      have hte := tailR_end f iv lo k (by omega) (by omega)
      have hfin : overP f iv = D := by rw [HDO.out, hte, List.append_nil]
      have HFIN : Hid _ := hfin
      clear hte hfin
      go_wp2_with fail
      go_ret2
      exact ⟨⟨_, _, rfl, by rw [HFIN.out]; exact owns_mono HO1'.out (by omega), by rw [HFIN.out]; exact owns_mono HO2'.out (by omega)⟩, xb⟩

end Go.Proofs.Ytnmpfooegnmknaa.Tr

/- What the specification's TreeRange answers, and which pages the program walks over. -/
namespace Go.Proofs.Ytnmpfooegnmknaa.Tr
open Go.RowKit
set_option linter.unusedVariables false

theorem chain_all : ∀ {last : Ent} {l : List Ent}, chainB last l = true → ∀ e ∈ l, entB e = true
  | _, [], _, e, he => by simp at he
  | last, a :: t, h, e, he => by
    rw [chainB_cons, Bool.and_eq_true, Bool.and_eq_true] at h
    rcases List.mem_cons.mp he with rfl | he
    · exact h.1.1
    · exact chain_all h.2 e he
theorem ents_all : ∀ {last : Ent} {f : List Pg}, entsB last f = true → ∀ p ∈ f, ∀ e ∈ p.es, entB e = true
  | _, [], _, p, hp => by simp at hp
  | last, a :: t, h, p, hp => by
    rw [entsB_cons, Bool.and_eq_true] at h
    rcases List.mem_cons.mp hp with rfl | hp
    · exact chain_all h.1
    · exact ents_all h.2 p hp
theorem entB_key {e : Ent} (h : entB e = true) : e.key.size ≤ 2000 := by unfold entB at h; simp at h; exact h.1
theorem hasP_small (iv : Ivl) (k : ByteArray) (h : k.size ≤ 2000) : hasP iv k = hasI iv k := by unfold hasP; rw [decide_eq_true (by omega), Bool.true_and]
/-- What TreeRange tells: entries, numbers, a code. -/
def rangeE (f : List Pg) (next : Int) (iv : Ivl) : List Ent := if treeB f next = true then entsOf iv (overP f iv) else []
def rangeN (f : List Pg) (next : Int) (iv : Ivl) : List Int := if treeB f next = true then numsOf (overP f iv) else []
def rangeC (f : List Pg) (next : Int) : Int := if treeB f next = true then 0 else 1
def OwnI (w : World) (base : Nat) (v : Value) (l : List Int) : Prop := w.ownsRow base 3 1 v l.length (intsV l)
theorem numsOf_len (ps : List Pg) : (numsOf ps).length = ps.length := by unfold numsOf; simp

set_option maxRecDepth 4000 in
set_option maxHeartbeats 2000000 in
theorem specTreeRange_any (p : Option Addr) (cap : Nat) (f : List Pg) (next : Int) (iv : Ivl) (w : World) (hr : RowP w p f) (hl : f.length ≤ 1048576) (hs : ∀ l ∈ f, szP l) :
    Calls Try.prog 25 #[.agg #[.slice p f.length cap, .int .i64 next], .agg #[.string iv.lo, .string iv.hi, .bool iv.op]] w fun e w' => (∃ v1 v2, e = .returned (.tuple #[v1, v2, .int .i64 (rangeC f next)]) ∧ OwnE w' w.heap.size v1 (rangeE f next iv) ∧ OwnI w' w.heap.size v2 (rangeN f next iv)) ∧ Below w.heap.size w w' := by
  have X0 := BoxTI.start w (.slice p f.length cap) next iv 37 52
  have HR : Hid (RowP _ _ _) := hr
  have HC0 := specTreeOK_any p cap f next _ (hr.next X0.bel) hl hs
  unfold rangeE rangeN rangeC OwnI
  clear hr hs
  cases hT : treeB f next
  · rw [hT] at HC0
    rw [if_neg (by simp), if_neg (by simp), if_neg (by simp)]
    have HC : Hid (Calls _ _ _ _ _) := HC0
    clear HC0 hT
    go_enter Try.func25, Try.ntmps25
    go_wp2_with fail
    refine HC.out.mono ?_
    rintro e w1 ⟨rfl, hb1⟩
    have X1 := X0.step hb1
    have xb := X1.bel
    have hz := xb.size
    clear hb1 HC X0 X1
    go_wp2_with fail
    refine bodyPost_ret (v := .tuple #[.slice (some ⟨w1.heap.size, 0, none⟩) 0 0, .slice (some ⟨w1.heap.size + 1, 0, none⟩) 0 0, .int .i64 1]) (by simp [results, Try.results25, go_sem]) rfl ⟨⟨_, _, rfl, ?_, ?_⟩, by (repeat (first | (with_reducible exact Below.refl _ _) | (with_reducible assumption) | (with_reducible apply below_drewN) | (with_reducible apply Below.drew) | ((with_reducible refine Below.setCell ?_ ?_ _); rotate_left; focus (first | (simp; done) | (simp; omega) | omega)) | ((with_reducible refine Below.alloc ?_ ?_ _); rotate_left; focus (first | (simp; done) | (simp; omega) | omega))))⟩
    · exact World.ownsRow.alloc (World.ownsRow_made (size := 2) (base := w.heap.size) (e := 40) w1 #[] 0 hz (by unfold maxLen; omega) rfl) _
    · have h := World.ownsRow_made (size := 1) (base := w.heap.size) (e := 3) (w1.alloc (.cells #[] 40)) #[] 0 (by simp; omega) (by unfold maxLen; omega) rfl
      simp at h
      exact h
  · rw [hT] at HC0
    rw [if_pos rfl, if_pos rfl, if_pos rfl]
    obtain ⟨⟨h1, h2, h3, h4⟩, h5, _, _⟩ := tree_parts hT
    have HC : Hid (Calls _ _ _ _ _) := HC0
    have HRG : Hid (∀ W : World, Below w.heap.size w W → Calls _ _ _ W _) := fun W hW => specRange_any p cap f next iv W (HR.out.next hW) h1 h2 (fun l hm => (h5 l hm).1) (fun hh l hm => by have := (h5 l hm).2; omega)
    clear HC0 hT h5
    go_enter Try.func25, Try.ntmps25
    go_wp2_with fail
    refine HC.out.mono ?_
    rintro e w1 ⟨rfl, hb1⟩
    have X1 := X0.step hb1
    obtain ⟨xb, xl, c0, c1, d0, d1, d2⟩ := X1
    clear hb1 HC X0
    go_wp2_with fail
    refine (HRG.out _ xb).mono ?_
    rintro e w2 ⟨⟨v1, v2, rfl, hO1, hO2⟩, hb2⟩
    have B2 := xb.trans (hb2.mono xb.size)
    have HO1 : Hid (OwnE _ _ _ _) := owns_mono hO1 xb.size
    have HO2 : Hid (World.ownsRow _ _ _ _ _ _ _) := owns_mono hO2 xb.size
    clear hO1 hO2 hb2
    go_wp2_with fail
    refine bodyPost_ret (v := .tuple #[v1, v2, .int .i64 0]) (by simp [results, Try.results25, go_sem]) rfl ⟨⟨_, _, rfl, HO1.out, by rw [numsOf_len]; exact HO2.out⟩, B2⟩

theorem take_succ_drop (f : List Pg) (lo h : Nat) (h1 : lo ≤ h) (h2 : h < f.length) : (f.drop lo).take (h + 1 - lo) = (f.drop lo).take (h - lo) ++ [f[h]] := by
  have hl : h - lo < (f.drop lo).length := by rw [List.length_drop]; omega
  rw [show h + 1 - lo = (h - lo) + 1 by omega, List.take_succ_eq_append_getElem hl]
  congr 1
  rw [List.getElem_drop]
  congr 2
  omega

set_option maxRecDepth 4000 in
set_option maxHeartbeats 2000000 in
theorem pagesOver_any (gp cap : Nat) (f : List Pg) (iv : Ivl) (w : World) (hr : PtrP w gp f) (h1 : 1 ≤ f.length) (hl : f.length ≤ 60) (hcap : f.length ≤ cap) (hcm : cap ≤ maxLen) (hs : ∀ l ∈ f, l.es.length ≤ 4) (hne : 1 < f.length → ∀ l ∈ f, 0 < l.es.length) :
    Calls Try.prog 55 #[.slice (some ⟨gp, 0, none⟩) f.length cap, .agg #[.string iv.lo, .string iv.hi, .bool iv.op]] w fun e w' => (∃ m, 1 ≤ m ∧ loP f iv + m ≤ f.length ∧ overP f iv = (f.drop (loP f iv)).take m ∧ e = .returned (.slice (some ⟨gp, loP f iv, none⟩) m m)) ∧ Below w.heap.size w w' := by
  have hb0 : Below w.heap.size w (w.alloc (.cells #[.string iv.lo, .string iv.hi, .bool iv.op] 52)) := (Below.refl _ _).alloc (Nat.le_refl _) _
  have d0 : (w.alloc (.cells #[.string iv.lo, .string iv.hi, .bool iv.op] 52)).cell? ⟨w.heap.size, 0, none⟩ = some (.string iv.lo) := by simp [go_sem]
  have d1 : (w.alloc (.cells #[.string iv.lo, .string iv.hi, .bool iv.op] 52)).cell? ⟨w.heap.size, 1, none⟩ = some (.string iv.hi) := by simp [go_sem]
  have d2 : (w.alloc (.cells #[.string iv.lo, .string iv.hi, .bool iv.op] 52)).cell? ⟨w.heap.size, 2, none⟩ = some (.bool iv.op) := by simp [go_sem]
  have l0 : w.heap.size < (w.alloc (.cells #[.string iv.lo, .string iv.hi, .bool iv.op] 52)).heap.size := by simp
  have HR : Hid (PtrP _ _ _) := hr.next hb0
  have HNE : Hid _ := hne
  have HS : Hid _ := hs
  have hplc := place_lt f ⟨iv.lo, -1⟩ (by omega)
  have HPP0 : ∀ W : World, PtrP W gp f → Calls Try.prog 58 #[.slice (some ⟨gp, 0, none⟩) f.length cap, .agg #[.string iv.lo, .int .i64 (-1)]] W fun e w' => e = .returned (.int .i64 (loP f iv : Nat)) ∧ Below W.heap.size W w' := fun W hW => pagePlace_any gp cap f ⟨iv.lo, -1⟩ W hW (by omega) h1 (fun l hm => by have := hs l hm; omega) hne
  have hov0 : overP f iv = (f.drop (loP f iv)).take (loP f iv + 1 - loP f iv) ++ (f.drop (loP f iv + 1)).takeWhile (goB iv) := by unfold overP; rw [show loP f iv + 1 - loP f iv = 1 by omega]
  obtain ⟨lo, hlo⟩ : ∃ lo, lo = loP f iv := ⟨_, rfl⟩
  have hlolt : lo < f.length := by rw [hlo]; exact hplc
  rw [← hlo] at HPP0 hov0 ⊢
  have HPP : Hid (∀ W : World, PtrP W gp f → Calls _ _ _ W _) := HPP0
  have HOV : Hid _ := hov0
  clear hr hs hne hplc HPP0 hov0 hlo
  go_enter Try.func55, Try.ntmps55
  go_wp2_with fail
  generalize w.alloc (.cells #[.string iv.lo, .string iv.hi, .bool iv.op] 52) = W0 at hb0 d0 d1 d2 l0 HR ⊢
  refine (aheadOf_any iv.lo W0).mono ?_
  rintro e w1 ⟨rfl, hb1⟩
  go_wp2_with fail
  refine (HPP.out _ (HR.out.next hb1)).mono ?_
  rintro e w2 ⟨rfl, hb2⟩
  have B2 : Below W0.heap.size W0 w2 := hb1.trans (hb2.mono hb1.size)
  clear hb1 hb2 HPP
  go_wp2_with fail
  go_loopw [6] (fun i wr => ∃ h : Nat, lo + 1 ≤ h ∧ h ≤ f.length ∧ i = .int .i64 h ∧ overP f iv = (f.drop lo).take (h - lo) ++ (f.drop h).takeWhile (goB iv) ∧ Below W0.heap.size W0 wr) (fun i _ => f.length - (intOf i).toNat)
  case atStart => exact ⟨lo + 1, Nat.le_refl _, by omega, by go_num, HOV.out, B2⟩
  case round =>
    obtain ⟨h, hh1, hh2, rfl, hov, hbel⟩ := hrel
    have HO : Hid _ := hov
    clear hov HOV B2
    have hz := hbel.size
    have hlz : w.heap.size < wr.heap.size := by omega
    have u1 : ∀ u : Under wr, u.x.cell? ⟨w.heap.size, 1, none⟩ = some (.string iv.hi) := fun u => (u.h.cell hlz).trans ((hbel.cell l0).trans d1)
    have u2 : ∀ u : Under wr, u.x.cell? ⟨w.heap.size, 2, none⟩ = some (.bool iv.op) := fun u => (u.h.cell hlz).trans ((hbel.cell l0).trans d2)
    have hnu : Nonempty (Under wr) := ⟨⟨wr, Below.refl _ _⟩⟩
    by_cases hlt : h < f.length
    · have hd : decide (h < f.length) = true := decide_eq_true hlt
      have hlt2 : (h : Int) < (f.length : Int) := by omega
      obtain ⟨b, o, x0, y0, y1, q, c, y2, t1⟩ := (HR.out.next hbel).cells h hlt
      have hgl : gp < wr.heap.size := Nat.lt_of_lt_of_le HR.out.lt hbel.size
      have hz1 : 0 < f[h].es.length := HNE.out (by omega) f[h] (List.getElem_mem _)
      rcases t1 with h0 | ⟨b2, off, rfl, hbl, hc⟩
      · omega
      obtain ⟨z0, _⟩ := hc 0 hz1
      have hgs := goB_some (iv := iv) hz1
      obtain ⟨fe, hfe⟩ : ∃ fe, fe = f[h].es[0] := ⟨_, rfl⟩
      rw [← hfe] at z0 hgs
      have u3 : ∀ u : Under wr, u.x.cell? ⟨gp, h, none⟩ = some (.pointer (some ⟨b, o, none⟩)) := fun u => (u.h.cell hgl).trans x0
      have u4 : ∀ u : Under wr, u.x.cell? ⟨b, o + 1, none⟩ = some (.slice (some ⟨b2, off, none⟩) f[h].es.length c) := fun u => (u.h.cell y0).trans y2
      have u5 : ∀ u : Under wr, u.x.cell? ⟨b2, off, none⟩ = some (.string fe.key) := fun u => (u.h.cell hbl).trans z0
      have u6 : ∀ u : Under wr, u.x.cell? ⟨b, o, none⟩ = some (.int .i64 f[h].num) := fun u => (u.h.cell y0).trans y1
      have hzd : decide (0 < f[h].es.length) = true := decide_eq_true hz1
      have hzi : 0 < (f[h].es.length : Int) := by omega
      have hst := over_step iv f h hlt
      have htk := take_succ_drop f lo h (by omega) hlt
      clear hc hfe x0 y1 y2 z0
      cases hop : iv.op
      · rw [hop] at u2 hgs
        cases hL : Op.bytesLess fe.key.toList iv.hi.toList
        · rw [hL] at hgs
          rw [if_neg (by rw [hgs]; simp)] at hst
          have HFIN : Hid (overP f iv = (f.drop lo).take (h - lo)) := HO.out.trans (by rw [hst, List.append_nil])
          have hcap2 : (h : Int) ≤ (cap : Int) := by omega
          have hlh : (lo : Int) ≤ (h : Int) := by omega
          have hpos : ¬ h - lo = 0 := by omega
          clear hst hgs htk hop
          go_wp2_with fail
          refine wp_region_under (by kernel_rfl) (by kernel_rfl) ?_
          repeat (go_big_quiet_step (fail))
          refine wpQuiet_nil ?_
          rintro _ ⟨u, rfl⟩
          go_wp2_with fail
          go_ret
          exact ⟨⟨h - lo, by omega, by omega, HFIN.out, rfl⟩, hb0.trans ((hbel.trans (u.h.mono hbel.size)).mono hb0.size)⟩
        · rw [hL] at hgs
          rw [if_pos (by rw [hgs]; rfl)] at hst
          have HST : Hid (overP f iv = (f.drop lo).take (h + 1 - lo) ++ (f.drop (h + 1)).takeWhile (goB iv)) := HO.out.trans (by rw [hst, htk, List.append_assoc]; rfl)
          clear hst hgs htk hop
          go_wp2_with fail
          refine wp_region_under (by kernel_rfl) (by kernel_rfl) ?_
          repeat (go_big_quiet_step (fail))
          refine wpQuiet_nil ?_
          rintro _ ⟨u, rfl⟩
          go_wp2_with fail
          go_roundw
          case rel => exact ⟨h + 1, by omega, by omega, by go_num, HST.out, hbel.trans (u.h.mono hbel.size)⟩
          case measure => simp [intOf]; omega
      · rw [hop] at u2 hgs
        rw [if_pos (by rw [hgs]; rfl)] at hst
        have HST : Hid (overP f iv = (f.drop lo).take (h + 1 - lo) ++ (f.drop (h + 1)).takeWhile (goB iv)) := HO.out.trans (by rw [hst, htk, List.append_assoc]; rfl)
        clear hst hgs htk hop
        go_wp2_with fail
        refine wp_region_under (by kernel_rfl) (by kernel_rfl) ?_
        repeat (go_big_quiet_step (fail))
        refine wpQuiet_nil ?_
        rintro _ ⟨u, rfl⟩
        go_wp2_with fail
        go_roundw
        case rel => exact ⟨h + 1, by omega, by omega, by go_num, HST.out, hbel.trans (u.h.mono hbel.size)⟩
        case measure => simp [intOf]; omega
    · have hd : decide (h < f.length) = false := decide_eq_false hlt
      have HFIN : Hid (overP f iv = (f.drop lo).take (h - lo)) := HO.out.trans (by rw [show f.drop h = [] from List.drop_of_length_le (by omega)]; simp)
      have hcap2 : (h : Int) ≤ (cap : Int) := by omega
      have hlh : (lo : Int) ≤ (h : Int) := by omega
      have hpos : ¬ h - lo = 0 := by omega
      go_wp2_with fail
      refine wp_region_under (by kernel_rfl) (by kernel_rfl) ?_
      repeat (go_big_quiet_step (fail))
      refine wpQuiet_nil ?_
      rintro _ ⟨u, rfl⟩
      go_wp2_with fail
      go_ret
      exact ⟨⟨h - lo, by omega, by omega, HFIN.out, rfl⟩, hb0.trans ((hbel.trans (u.h.mono hbel.size)).mono hb0.size)⟩

end Go.Proofs.Ytnmpfooegnmknaa.Tr

/- What the program's TreeRange answers. -/
namespace Go.Proofs.Ytnmpfooegnmknaa.Tr
open Go.RowKit
set_option linter.unusedVariables false

theorem keepR {w W w0 : World} {v : Value} {next : Int} {iv : Ivl} (X : BoxTI w W v next iv) (hb : Below W.heap.size W w0) :
    w0.cell? ⟨w.heap.size, 0, none⟩ = some v ∧ w0.cell? ⟨w.heap.size + 1, 0, none⟩ = some (.string iv.lo) ∧ w0.cell? ⟨w.heap.size + 1, 1, none⟩ = some (.string iv.hi) ∧ w0.cell? ⟨w.heap.size + 1, 2, none⟩ = some (.bool iv.op) :=
  ⟨(X.step hb).c0, (X.step hb).d0, (X.step hb).d1, (X.step hb).d2⟩
/-- A row of pointers to pages, from place lo on. -/
def PtrR (w : World) (gp lo : Nat) (ps : List Pg) : Prop := gp < w.heap.size ∧ ∀ i (h : i < ps.length), ∃ b o, w.cell? ⟨gp, lo + i, none⟩ = some (.pointer (some ⟨b, o, none⟩)) ∧ PageAtA w b o ps[i]
theorem PtrR.next {w w' : World} {gp lo : Nat} {ps : List Pg} (h : PtrR w gp lo ps) (hb : Below w.heap.size w w') : PtrR w' gp lo ps :=
  ⟨Nat.lt_of_lt_of_le h.1 hb.size, fun i hi => by
    obtain ⟨b, o, h1, h2⟩ := h.2 i hi
    exact ⟨b, o, (hb.cell h.1).trans h1, h2.next hb⟩⟩
theorem PtrP.part {w : World} {gp : Nat} {f : List Pg} (h : PtrP w gp f) (lo m : Nat) (hm : lo + m ≤ f.length) : PtrR w gp lo ((f.drop lo).take m) :=
  ⟨h.lt, fun i hi => by
    have hi' : i < m := by rw [List.length_take, List.length_drop] at hi; omega
    obtain ⟨b, o, h1, h2⟩ := h.cells (lo + i) (by omega)
    refine ⟨b, o, h1, ?_⟩
    have e : ((f.drop lo).take m)[i] = f[lo + i] := by rw [List.getElem_take, List.getElem_drop]
    rw [e]; exact h2⟩

set_option maxRecDepth 4000 in
set_option maxHeartbeats 4000000 in
theorem treeRange_any (p : Option Addr) (cap : Nat) (f : List Pg) (next : Int) (iv : Ivl) (w : World) (hr : RowP w p f) (hl : f.length ≤ 1048576) (hcap : f.length ≤ cap) (hs : ∀ l ∈ f, szP l) :
    Calls Try.prog 19 #[.agg #[.slice p f.length cap, .int .i64 next], .agg #[.string iv.lo, .string iv.hi, .bool iv.op]] w fun e w' => (∃ v1 v2, e = .returned (.tuple #[v1, v2, .int .i64 (rangeC f next)]) ∧ OwnE w' w.heap.size v1 (rangeE f next iv) ∧ OwnI w' w.heap.size v2 (rangeN f next iv)) ∧ Below w.heap.size w w' := by
  obtain ⟨iE, hiE, hzE0, hzE1, hzE2⟩ := info_parts infoE
  obtain ⟨iI, hiI, hzI0, hzI1, hzI2⟩ := info_parts infoI
  have X0 := BoxTI.start w (.slice p f.length cap) next iv 37 52
  have HR : Hid (RowP _ _ _) := hr
  have HC0 := treeOK_any p cap f next _ (hr.next X0.bel) hl hcap hs
  unfold rangeE rangeN rangeC OwnI
  clear hr hs
  cases hT : treeB f next
  · rw [hT] at HC0
    rw [if_neg (by simp), if_neg (by simp), if_neg (by simp)]
    have HC : Hid (Calls _ _ _ _ _) := HC0
    clear HC0 hT
    go_enter Try.func19, Try.ntmps19
    go_wp2_with fail
    refine HC.out.mono ?_
    rintro e w1 ⟨rfl, hb1⟩
    have xb := (X0.step hb1).bel
    clear hb1 HC X0
    go_wp2_with fail
    refine bodyPost_ret (v := .tuple #[.slice none 0 0, .slice none 0 0, .int .i64 1]) (by simp [results, Try.results19, go_sem]) rfl ⟨⟨_, _, rfl, ⟨rfl, .inl ⟨rfl, rfl⟩⟩, ⟨rfl, .inl ⟨rfl, rfl⟩⟩⟩, xb⟩
  · rw [hT] at HC0
    rw [if_pos rfl, if_pos rfl, if_pos rfl]
    obtain ⟨⟨h1, h2, h3, h4⟩, h5, _, hents⟩ := tree_parts hT
    have HC : Hid (Calls _ _ _ _ _) := HC0
    obtain ⟨g, rfl⟩ : ∃ g, p = some ⟨g, 0, none⟩ := by
      rcases HR.out with h0 | ⟨g, hp, _⟩
      · rw [h0] at h1; simp at h1
      · exact ⟨g, hp⟩
    have HRD : Hid (ReadP w g f) := by
      rcases HR.out with h0 | ⟨g', hp, R1⟩
      · rw [h0] at h1; simp at h1
      · injection hp with hp; injection hp with hp; subst hp; exact R1
    have HPT : Hid (∀ W : World, Calls _ _ _ W _) := fun W => pointersTo_any g cap f.length W h2
    have HNE : Hid (1 < f.length → ∀ l ∈ f, 0 < l.es.length) := fun hh l hm => by have := (h5 l hm).2; omega
    have HF4 : Hid (∀ l ∈ f, l.es.length ≤ 4) := fun l hm => (h5 l hm).1
    have HEN : Hid (∀ l ∈ f, ∀ e ∈ l.es, entB e = true) := ents_all hents
    clear HC0 hT h5 hents HR
    go_enter Try.func19, Try.ntmps19
    go_wp2_with fail
    refine HC.out.mono ?_
    rintro e w1 ⟨rfl, hb1⟩
    have X1 := X0.step hb1
    clear hb1 HC X0
    go_wp2_with fail
    go_region_held3 (fun w0 => w0.cell? ⟨w.heap.size, 0, none⟩ = some (.slice (some ⟨g, 0, none⟩) f.length cap) ∧ w0.cell? ⟨w.heap.size + 1, 0, none⟩ = some (.string iv.lo) ∧ w0.cell? ⟨w.heap.size + 1, 1, none⟩ = some (.string iv.hi) ∧ w0.cell? ⟨w.heap.size + 1, 2, none⟩ = some (.bool iv.op)) ((refine keepR X1 ?_; (repeat (first | (with_reducible exact Below.refl _ _) | (with_reducible assumption) | (with_reducible apply below_drewN) | (with_reducible apply Below.drew) | ((with_reducible refine Below.setCell ?_ ?_ _); rotate_left; focus (first | (simp; done) | (simp; omega) | omega)) | ((with_reducible refine Below.alloc ?_ ?_ _); rotate_left; focus (first | (simp; done) | (simp; omega) | omega)))))) (first | (go_at_call 56; refine (HPT.out _).mono ?_; rintro e w2 ⟨⟨v, rfl, hown⟩, hb⟩; obtain ⟨gp, pc, rfl, hg1, hg2, hg3, hg4⟩ := owns_form hown (by omega); have hB2 : Below w1.heap.size w1 w2 := (show Below w1.heap.size w1 _ by (repeat (first | (with_reducible exact Below.refl _ _) | (with_reducible assumption) | (with_reducible apply below_drewN) | (with_reducible apply Below.drew) | ((with_reducible refine Below.setCell ?_ ?_ _); rotate_left; focus (first | (simp; done) | (simp; omega) | omega)) | ((with_reducible refine Below.alloc ?_ ?_ _); rotate_left; focus (first | (simp; done) | (simp; omega) | omega))))).trans (hb.mono (by simp)); have HPP : Hid (PtrP _ _ _) := owns_ptr hown rfl rfl (HRD.out.next (X1.step hB2).bel); clear hb hown) | (go_at_call 55; refine (pagesOver_any gp pc f iv _ HPP.out h1 h2 hg3 hg4 HF4.out HNE.out).mono ?_; rintro e w3 ⟨⟨m, hm1, hm2, hm3, rfl⟩, hb⟩; have hB3 : Below w1.heap.size w1 w3 := hB2.trans (hb.mono hB2.size); have HPP3 : Hid (PtrP _ _ _) := HPP.out.next hb; clear hb))
    have X3 := X1.step hB3
    have HPR : Hid (PtrR w3 gp (loP f iv) (overP f iv)) := by rw [hm3]; exact HPP3.out.part _ _ hm2
    have hml : (overP f iv).length = m := by rw [hm3, List.length_take, List.length_drop]; omega
    have HMEM : Hid (∀ q ∈ overP f iv, q ∈ f) := fun q hq => by rw [hm3] at hq; exact List.mem_of_mem_drop (List.mem_of_mem_take hq)
    obtain ⟨ps, hps⟩ : ∃ ps, ps = overP f iv := ⟨_, rfl⟩
    rw [← hps] at HPR hml HMEM
    have HPS : Hid (ps = overP f iv) := hps
    obtain ⟨lo, hlo⟩ : ∃ lo, lo = loP f iv := ⟨_, rfl⟩
    rw [← hlo] at HPR hm2 ⊢
    have hm60 : m ≤ 60 := by omega
    have hpl60 : ps.length ≤ 60 := by omega
    have XB := X3.bel
    clear hm3 hps hlo hB2 hB3 HPP HPP3 X1 hg1 hg2 hg3 hg4
    subst hml
    go_wp2_with fail
    go_loopw [7, 8, 22] (fun v1 v2 i wr => ∃ k : Nat, k ≤ ps.length ∧ i = .int .i64 k ∧ OwnE wr w3.heap.size v1 (entsOf iv (ps.take k)) ∧ wr.ownsRow w3.heap.size 3 1 v2 k (intsV (numsOf (ps.take k))) ∧ Below w3.heap.size w3 wr) (fun _ _ i _ => ps.length - (intOf i).toNat)
    case atStart => exact ⟨0, Nat.zero_le _, rfl, ⟨rfl, .inl ⟨rfl, rfl⟩⟩, ⟨rfl, .inl ⟨rfl, rfl⟩⟩, Below.refl _ _⟩
    case round =>
      obtain ⟨k, hk, rfl, hO1, hO2, hbel⟩ := hrel
      have hz := hbel.size
      by_cases hlt : k < ps.length
      · have hlt2 : (k : Int) < (ps.length : Int) := by omega
        obtain ⟨b, o, x0w, y0w, y1w, q, c, y2w, t0⟩ := HPR.out.2 k hlt
        have x0 := (hbel.cell HPR.out.1).trans x0w
        have y1 := (hbel.cell y0w).trans y1w
        have y2 := (hbel.cell y0w).trans y2w
        have HT0 : Hid (InE _ _ _) := t0
        clear t0 x0w
        have h4 := HF4.out ps[k] (HMEM.out _ (List.getElem_mem _))
        have hel := entsOf_len iv (ps.take k) (fun r hr => HF4.out r (HMEM.out r (List.mem_of_mem_take hr)))
        have hel2 : (ps.take k).length ≤ 60 := by rw [List.length_take]; omega
        have HO1 : Hid (OwnE _ _ _ _) := hO1
        have HB : Hid (Below _ _ _) := hbel
        clear hO1
        go_wp2_with (at_builtin; refine wpList_append_own_at _ rfl (.tmp 26) (.tmp 31) 48 rfl w3.heap.size 3 iI (.int .i64 0) 1 8 Try.underlying48 hiI hzI0 hzI1 hzI2 rfl (by decide) _ _ _ rfl (hO2.alloc _) ⟨wr.heap.size, 0, none⟩ 1 1 [.int .i64 ps[k].num] rfl rfl (cell_one_new _ _ _) ?c2 ?c3 ?c4 ?c5 ?_)
        case c2 => intro r hr; simp at hr; subst hr; rfl
        case c3 => unfold maxLen; omega
        case c4 => omega
        case c5 => simp; omega
        intro v2' w4 hO2v hg4 hnv hat
        have hO1v := World.ownsRow.kept (World.ownsRow.alloc HO1.out (.cells #[.int .i64 ps[k].num] 3)) hg4 (owns_types (World.ownsRow.alloc HO1.out (.cells #[.int .i64 ps[k].num] 3)) (World.ownsRow.alloc hO2 (.cells #[.int .i64 ps[k].num] 3)) tne)
        have B4 : Below w3.heap.size wr w4 := Below.grown ((Below.refl _ wr).alloc hz (.cells #[.int .i64 ps[k].num] 3)) hg4 (by simp; omega) (fun b hb => (hO2.lt b hb).1)
        have B34 := HB.out.trans B4
        have hO2n : w4.ownsRow w3.heap.size 3 1 v2' (k + 1) (intsV (numsOf (ps.take (k + 1)))) := by rw [List.take_succ_eq_append_getElem hlt, numsOf_app, intsV_app]; exact hO2v
        have HO2n : Hid (World.ownsRow _ _ _ _ _ _ _) := hO2n
        have HO1n : Hid (OwnE _ _ _ _) := hO1v
        have HB4 : Hid (Below _ _ _) := B34
        have y2' := (B34.cell y0w).trans y2w
        have y1' := (B34.cell y0w).trans y1w
        clear hg4 hO1v hO2v hO2n hnv hat B4 B34 hO2 x0 y1 y2 hbel
        go_wp2_with fail
        go_loopw [7, 38] (fun v1 i wq => ∃ j : Nat, j ≤ ps[k].es.length ∧ i = .int .i64 j ∧ OwnE wq w3.heap.size v1 (entsOf iv (ps.take k) ++ filt iv ps[k].es j) ∧ wq.ownsRow w3.heap.size 3 1 v2' (k + 1) (intsV (numsOf (ps.take (k + 1)))) ∧ Below w3.heap.size w3 wq) (fun _ i _ => ps[k].es.length - (intOf i).toNat)
        case atStart => exact ⟨0, Nat.zero_le _, rfl, by rw [show filt iv ps[k].es 0 = [] from rfl, List.append_nil]; exact HO1n.out, HO2n.out, HB4.out⟩
        case round =>
          obtain ⟨j, hj, rfl, hO1, hO2, hbq⟩ := hrel
          have HO1 : Hid (OwnE _ _ _ _) := hO1
          have HO2 : Hid (World.ownsRow _ _ _ _ _ _ _) := hO2
          have HBQ : Hid (Below _ _ _) := hbq
          have hfl := filt_len iv ps[k].es j
          have hzq := hbq.size
          clear hO1 hO2 HO1n HO2n HB4 y1' y2'
          by_cases hjl : j < ps[k].es.length
          · have hjl2 : (j : Int) < (ps[k].es.length : Int) := by omega
            rcases HT0.out.step hbq with h0 | ⟨b2, off, hpa, hbl, hc⟩
            · omega
            cases hpa
            obtain ⟨z0, z1⟩ := hc j hjl
            have hke := entB_key (HEN.out ps[k] (HMEM.out _ (List.getElem_mem _)) ps[k].es[j] (List.getElem_mem _))
            obtain ⟨en, hen⟩ : ∃ en, en = ps[k].es[j] := ⟨_, rfl⟩
            have hyes := filt_yes iv ps[k].es j hjl
            have hno := filt_no iv ps[k].es j hjl
            rw [← hen] at z0 z1 hyes hno hke
            have HYES : Hid _ := hyes
            have HNO : Hid _ := hno
            have X := X3.step hbq
            have hbA : Below wr.heap.size wr (wr.alloc (.cells #[.string en.key, .int .i64 en.id] 40)) := (Below.refl _ _).alloc (Nat.le_refl _) _
            have XA := X.step hbA
            obtain ⟨_, xl, _, _, d0, d1, d2⟩ := XA
            have e0' : (wr.alloc (.cells #[.string en.key, .int .i64 en.id] 40)).cell? ⟨wr.heap.size, 0, none⟩ = some (.string en.key) := by simp [go_sem]
            have e1' : (wr.alloc (.cells #[.string en.key, .int .i64 en.id] 40)).cell? ⟨wr.heap.size, 1, none⟩ = some (.int .i64 en.id) := by simp [go_sem]
            have el' : wr.heap.size < (wr.alloc (.cells #[.string en.key, .int .i64 en.id] 40)).heap.size := by simp
            have HH0 := implHas_any iv.lo iv.hi iv.op en.key (wr.alloc (.cells #[.string en.key, .int .i64 en.id] 40)) (by omega)
            rw [show hasP ⟨iv.lo, iv.hi, iv.op⟩ en.key = hasI iv en.key from hasP_small iv en.key hke] at HH0
            have HBA : Hid (Below _ _ _) := hbA
            have hke2 : en.key.size ≤ 1048576 := by omega
            clear hc hen hyes hno X hbA
            cases hH : hasI iv en.key
            · rw [hH] at HH0
              have HH : Hid (Calls _ _ _ _ _) := HH0
              have HN : Hid (filt iv ps[k].es (j + 1) = filt iv ps[k].es j) := HNO.out hH
              clear HH0 hH
              go_wp2_with fail
              refine HH.out.mono ?_
              rintro e w5 ⟨rfl, hb5⟩
              have hb5' := HBA.out.trans (hb5.mono HBA.out.size)
              have hO1x := owns_below HO1.out hb5'
              have HO1x : Hid (OwnE _ _ _ _) := hO1x
              have HO2x : Hid (World.ownsRow _ _ _ _ _ _ _) := owns_below HO2.out hb5'
              have HBx : Hid (Below _ _ _) := HBQ.out.trans (hb5'.mono HBQ.out.size)
              clear hb5 hb5' hO1x HH
              go_wp2_with fail
              go_roundw
              case rel => exact ⟨j + 1, by omega, by go_num, by rw [HN.out]; exact HO1x.out, HO2x.out, HBx.out⟩
              case measure => simp [intOf]; omega
            · rw [hH] at HH0
              have HH : Hid (Calls _ _ _ _ _) := HH0
              have HN : Hid (filt iv ps[k].es (j + 1) = filt iv ps[k].es j ++ [en]) := HYES.out hH
              clear HH0 hH
              go_wp2_with fail
              refine HH.out.mono ?_
              rintro e w5 ⟨rfl, hb5⟩
              have hb5' := HBA.out.trans (hb5.mono HBA.out.size)
              have f0 := (hb5.cell el').trans e0'
              have f1 := (hb5.cell el').trans e1'
              have HB5 : Hid (Below _ _ _) := hb5'
              have hz5 := hb5'.size
              clear hb5 hb5' HH
              go_wp2_with fail
              refine (ownEntry_any en.key en.id _ hke2).mono ?_
              rintro e w6 ⟨rfl, hb6⟩
              have hb6' := HB5.out.trans (hb6.mono HB5.out.size)
              have hO1x := owns_below HO1.out hb6'
              have hO2x := owns_below HO2.out hb6'
              have HBx : Hid (Below _ _ _) := HBQ.out.trans (hb6'.mono HBQ.out.size)
              have hz6 : w3.heap.size ≤ w6.heap.size := HBx.out.size
              clear hb6 hb6' HB5 f0 f1 e0' e1' el' d0 d1 d2 xl
              go_wp2_with (at_builtin; refine wpList_append_own_at _ rfl (.tmp 46) (.tmp 49) 47 rfl w3.heap.size 40 iE (.agg #[.string em, .int .i64 0]) 2 24 Try.underlying47 hiE hzE0 hzE1 hzE2 rfl (by decide) _ _ _ rfl (hO1x.alloc _) ⟨w6.heap.size, 0, none⟩ 1 1 [.string en.key, .int .i64 en.id] rfl rfl ?c1 ?c2 ?c3 ?c4 ?c5 ?_)
              case c1 =>
                intro j' x hj'
                match j', hj' with
                | 0, hj' => simp at hj'; subst hj'; simp [Addr.add, go_sem]
                | 1, hj' => simp at hj'; subst hj'; simp [Addr.add, go_sem]
                | j' + 2, hj' => simp at hj'
              case c2 => intro x hx; simp at hx; rcases hx with rfl | rfl <;> rfl
              case c3 => rw [List.length_append]; unfold maxLen; omega
              case c4 => rw [List.length_append]; omega
              case c5 => simp; omega
              intro v1' w7 hO1v hg7 hnv hat
              have hO2v := World.ownsRow.kept (World.ownsRow.alloc hO2x (.cells #[.string en.key, .int .i64 en.id] 40)) hg7 (owns_types (World.ownsRow.alloc hO2x (.cells #[.string en.key, .int .i64 en.id] 40)) (World.ownsRow.alloc hO1x (.cells #[.string en.key, .int .i64 en.id] 40)) tne')
              have B7 : Below w3.heap.size w6 w7 := Below.grown ((Below.refl _ w6).alloc hz6 (.cells #[.string en.key, .int .i64 en.id] 40)) hg7 (by simp; omega) (fun b hb => (hO1x.lt b hb).1)
              have HB7 : Hid (Below _ _ _) := HBx.out.trans B7
              have hO1w : OwnE w7 w3.heap.size v1' (entsOf iv (ps.take k) ++ filt iv ps[k].es (j + 1)) := by
                rw [HN.out, ← List.append_assoc]
                unfold OwnE
                rw [flatE_snoc, List.length_append, List.length_append]
                exact hO1v
              have HO1w : Hid (OwnE _ _ _ _) := hO1w
              have HO2w : Hid (World.ownsRow _ _ _ _ _ _ _) := hO2v
              clear hg7 hO1x hO2x hO1v hO2v hnv hat B7 hO1w
              go_wp2_with fail
              go_roundw
              case rel => exact ⟨j + 1, by omega, by go_num, HO1w.out, HO2w.out, HB7.out⟩
              case measure => simp [intOf]; omega
          · have hjl2 : ¬ (j : Int) < (ps[k].es.length : Int) := by omega
            have HFA : Hid (filt iv ps[k].es j = ps[k].es.filter fun e => hasI iv e.key) := filt_all iv ps[k].es j (by omega)
            go_wp2_with fail
            go_roundw
            case rel =>
              refine ⟨k + 1, by omega, by go_num, ?_, HO2.out, HBQ.out⟩
              rw [List.take_succ_eq_append_getElem hlt, entsOf_app, entsOf_one, ← HFA.out]; exact HO1.out
            case measure => simp [intOf]; omega
      · obtain rfl : k = ps.length := by omega
        rw [List.take_length] at hO1 hO2
        have HO1 : Hid (OwnE _ _ _ _) := owns_mono hO1 XB.size
        have HO2 : Hid (World.ownsRow _ _ _ _ _ _ _) := owns_mono hO2 XB.size
        have HB : Hid (Below _ _ _) := XB.trans (hbel.mono XB.size)
        clear hO1 hO2 hbel
        go_wp2_with fail
        refine bodyPost_ret (v := .tuple #[u7, u8, .int .i64 0]) (by simp [results, Try.results19, go_sem]) rfl ⟨⟨_, _, rfl, by rw [← HPS.out]; exact HO1.out, by rw [← HPS.out, numsOf_len]; exact HO2.out⟩, HB.out⟩

end Go.Proofs.Ytnmpfooegnmknaa.Tr

/- Bytes that come in as a law's code: where they lie, and each is one. -/
namespace Go.Proofs.Ytnmpfooegnmknaa.Tr
open Go.RowKit
set_option linter.unusedVariables false

theorem gd (zs : List Int) (k : Nat) (h : k < zs.length) : zs.getD k 0 = zs[k] := by
  rw [List.getD_eq_getElem?_getD, List.getElem?_eq_getElem h]; rfl
theorem wf_byte {n : Int} (h : (Lit.int .u8 n).wf = true) : 0 ≤ n ∧ n < 256 := by
  unfold Lit.wf at h
  rw [Bool.and_eq_true, decide_eq_true_eq, decide_eq_true_eq] at h
  have h1 : IntKind.u8.min = 0 := by decide
  have h2 : IntKind.u8.max = 255 := by decide
  rw [h1, h2] at h
  omega
theorem inc_of {w : World} {x : Addr} {l c : Nat} {zs : List Int} (hl : l ≤ c) (hm : c ≤ maxLen) (hz : zs.length = c) (hcell : ∀ i, i < zs.length → w.cell? (x.add i) = some (.int .u8 (zs.getD i 0))) (hwf : ∀ n ∈ zs, (Lit.int .u8 n).wf = true) :
    ∃ ys : List Int, ys.length = l ∧ ys.length ≤ maxLen ∧ (∀ i, i < ys.length → 0 ≤ ys.getD i 0 ∧ ys.getD i 0 < 256) ∧ InB w (some x) ys := by
  have hlen : (zs.take l).length = l := by simp; omega
  refine ⟨zs.take l, hlen, by omega, ?_, ?_⟩
  · intro i hi
    rw [gd (zs.take l) i hi, List.getElem_take]
    exact wf_byte (hwf _ (List.getElem_mem _))
  by_cases h0 : l = 0
  · exact .inl (by simp [h0])
  · obtain ⟨b, off, spot⟩ := x
    have hc0 := hcell 0 (by omega)
    have hspot : spot = none := by simpa [Addr.add] using World.cell?_spot hc0
    subst hspot
    have hlt : b < w.heap.size := by
      rcases Nat.lt_or_ge b w.heap.size with h | h
      · exact h
      · simp [World.cell?, Addr.add, Array.getElem?_eq_none h] at hc0
    refine .inr ⟨b, off, rfl, hlt, fun i hi => ?_⟩
    have hi2 : i < l := by omega
    have := hcell i (by omega)
    rw [gd (zs.take l) i hi, List.getElem_take, ← gd zs i (by omega), ← this]
    by_cases hi0 : i = 0
    · subst hi0; simp [Addr.add]
    · simp [Addr.add, hi0]

end Go.Proofs.Ytnmpfooegnmknaa.Tr

/- What the laws of trees lean on: drawn trees and entries out of codes, trees held against each other, whole ranges. -/
namespace Go.Proofs.Ytnmpfooegnmknaa.Tr
open Go.RowKit
set_option linter.unusedVariables false

/-- Two cells in a block. -/
structure B2 (W : World) (b : Nat) (x y : Value) : Prop where
  lt : b < W.heap.size
  c0 : W.cell? ⟨b, 0, none⟩ = some x
  c1 : W.cell? ⟨b, 1, none⟩ = some y
theorem B2.new (W : World) (x y : Value) (T : TypeId) : B2 (W.alloc (.cells #[x, y] T)) W.heap.size x y := ⟨by simp, by simp [go_sem], by simp [go_sem]⟩
theorem B2.next {W W' : World} {b : Nat} {x y : Value} (h : B2 W b x y) (hb : Below W.heap.size W W') : B2 W' b x y := ⟨Nat.lt_of_lt_of_le h.lt hb.size, (hb.cell h.lt).trans h.c0, (hb.cell h.lt).trans h.c1⟩
theorem OwnT.room {w : World} {base : Nat} {v : Value} {f : List Pg} (h : OwnT w base v f) (h0 : 0 < f.length) : ∃ g cap, v = .slice (some ⟨g, 0, none⟩) f.length cap ∧ f.length ≤ cap ∧ FullP w g f := by
  rcases h.form with ⟨rfl, rfl⟩ | ⟨g, cap, rfl, _⟩
  · simp at h0
  · refine ⟨g, cap, rfl, ?_, h.full⟩
    obtain ⟨vs, xs, hP⟩ := h
    obtain ⟨h1, h2⟩ := hP.row
    rcases h2 with ⟨e, _⟩ | ⟨g', cap', cur, hv, hg', hh, hc1, hc2, r⟩
    · cases e
    · injection hv with _ _ hc; rw [hc]; exact hc1
theorem tree_pos {f : List Pg} {next : Int} (h : treeB f next = true) : 0 < f.length := by have := ((treeB_iff f next).1 h).1; omega
theorem tree_le {f : List Pg} {next : Int} (h : treeB f next = true) : f.length ≤ 1048576 := by have := ((treeB_iff f next).1 h).1; omega

set_option maxRecDepth 4000 in
set_option maxHeartbeats 1000000 in
theorem sameEntries_any (p1 p2 : Option Addr) (c1 c2 : Nat) (l : List Ent) (w : World) (h1 : InE w p1 l) (h2 : InE w p2 l) (hlen : l.length ≤ 1048576) :
    Calls Try.prog 26 #[.slice p1 l.length c1, .slice p2 l.length c2] w fun e w' => e = .returned (.bool true) ∧ Below w.heap.size w w' := by
  have H1 : Hid (InE _ _ _) := h1
  have H2 : Hid (InE _ _ _) := h2
  clear h1 h2
  go_enter Try.func26, Try.ntmps26
  go_wp2_with fail
  go_loopw [5] (fun i wr => ∃ k : Nat, k ≤ l.length ∧ i = .int .i64 k ∧ Below w.heap.size w wr) (fun i _ => l.length - (intOf i).toNat)
  case atStart => exact ⟨0, Nat.zero_le _, rfl, Below.refl _ _⟩
  case round =>
    obtain ⟨k, hk, rfl, hbel⟩ := hrel
    by_cases hlt : k < l.length
    · rcases H1.out.step hbel with h0 | ⟨g1, o1, rfl, l1, x1⟩
      · omega
      rcases H2.out.step hbel with h0 | ⟨g2, o2, rfl, l2, x2⟩
      · omega
      have hk1 : (k : Int) < (l.length : Int) := by omega
      obtain ⟨e, he⟩ : ∃ e, e = l[k] := ⟨_, rfl⟩
      have q0 : ∀ u : Under wr, u.x.cell? ⟨g1, o1 + k * 2, none⟩ = some (.string e.key) := fun u => (u.h.cell l1).trans (by rw [he]; exact (x1 k hlt).1)
      have r0 : ∀ u : Under wr, u.x.cell? ⟨g2, o2 + k * 2, none⟩ = some (.string e.key) := fun u => (u.h.cell l2).trans (by rw [he]; exact (x2 k hlt).1)
      have q1 : ∀ u : Under wr, u.x.cell? ⟨g1, o1 + k * 2 + 1, none⟩ = some (.int .i64 e.id) := fun u => (u.h.cell l1).trans (by rw [he]; exact (x1 k hlt).2)
      have r1 : ∀ u : Under wr, u.x.cell? ⟨g2, o2 + k * 2 + 1, none⟩ = some (.int .i64 e.id) := fun u => (u.h.cell l2).trans (by rw [he]; exact (x2 k hlt).2)
      have nq := fun W : World => (neqEnt e e W).trans (by rw [show (e.key.toList == e.key.toList && e.id == e.id) = true by simp])
      have hnu : Nonempty (Under wr) := ⟨⟨wr, Below.refl _ _⟩⟩
      clear x1 x2 he
      go_wp2_with fail
      refine wp_region_under (by kernel_rfl) (by kernel_rfl) ?_
      repeat (go_big_quiet_step (fail))
      refine wpQuiet_nil ?_
      rintro _ ⟨u, rfl⟩
      go_wp2_with fail
      go_roundw
      case rel => exact ⟨k + 1, by omega, by go_num, hbel.trans (u.h.mono hbel.size)⟩
      case measure => simp [intOf]; omega
    · have hlt2 : ¬ (k : Int) < (l.length : Int) := by omega
      go_wp2_with fail
      go_ret
      exact ⟨rfl, hbel⟩

set_option maxRecDepth 4000 in
set_option maxHeartbeats 2000000 in
theorem sameTree_any (p1 p2 : Option Addr) (c1 c2 : Nat) (f : List Pg) (next : Int) (w : World) (h1 : RowP w p1 f) (h2 : RowP w p2 f) (hlen : f.length ≤ 1048576) (hs : ∀ l ∈ f, l.es.length ≤ 1048576) :
    Calls Try.prog 22 #[.agg #[.slice p1 f.length c1, .int .i64 next], .agg #[.slice p2 f.length c2, .int .i64 next]] w fun e w' => e = .returned (.bool true) ∧ Below w.heap.size w w' := by
  have X0 := (B2.new w (.slice p1 f.length c1) (.int .i64 next) 37).next ((Below.refl _ _).alloc (Nat.le_refl _) (.cells #[.slice p2 f.length c2, .int .i64 next] 37))
  have Y0 := B2.new (w.alloc (.cells #[.slice p1 f.length c1, .int .i64 next] 37)) (.slice p2 f.length c2) (.int .i64 next) 37
  have hbw : Below w.heap.size w ((w.alloc (.cells #[.slice p1 f.length c1, .int .i64 next] 37)).alloc (.cells #[.slice p2 f.length c2, .int .i64 next] 37)) := ((Below.refl _ _).alloc (Nat.le_refl _) _).alloc (by simp) _
  have hyz : (w.alloc (.cells #[.slice p1 f.length c1, .int .i64 next] 37)).heap.size = w.heap.size + 1 := by simp
  rw [hyz] at Y0
  have H1 : Hid (RowP _ _ _) := h1.next hbw
  have H2 : Hid (RowP _ _ _) := h2.next hbw
  have HS : Hid _ := hs
  clear h1 h2 hs hyz
  go_enter Try.func22, Try.ntmps22
  go_wp2_with fail
  generalize (w.alloc (.cells #[.slice p1 f.length c1, .int .i64 next] 37)).alloc (.cells #[.slice p2 f.length c2, .int .i64 next] 37) = W0 at X0 Y0 hbw H1 H2 ⊢
  go_loopw [5] (fun i wr => ∃ k : Nat, k ≤ f.length ∧ i = .int .i64 k ∧ Below W0.heap.size W0 wr) (fun i _ => f.length - (intOf i).toNat)
  case atStart => exact ⟨0, Nat.zero_le _, rfl, Below.refl _ _⟩
  case round =>
    obtain ⟨k, hk, rfl, hbel⟩ := hrel
    have X := X0.next hbel
    have Y := Y0.next hbel
    have a0 := X.c0
    have b0 := Y.c0
    by_cases hlt : k < f.length
    · rcases H1.out.next hbel with h0 | ⟨g1, rfl, R1⟩
      · subst h0; simp at hlt
      rcases H2.out.next hbel with h0 | ⟨g2, rfl, R2⟩
      · subst h0; simp at hlt
      obtain ⟨w1, pa, ca, x1, t1⟩ := R1.cells k hlt
      obtain ⟨w2, pb, cb, x2, t2⟩ := R2.cells k hlt
      have l1 := R1.lt
      have l2 := R2.lt
      have hk1 : (k : Int) < (f.length : Int) := by omega
      obtain ⟨m, hm⟩ : ∃ m, m = f[k].num := ⟨_, rfl⟩
      obtain ⟨n, hn⟩ : ∃ n, n = f[k].es.length := ⟨_, rfl⟩
      have q0 : ∀ u : Under wr, u.x.cell? ⟨g1, k * 2, none⟩ = some (.int .i64 m) := fun u => (u.h.cell l1).trans (by rw [hm]; exact w1)
      have r0 : ∀ u : Under wr, u.x.cell? ⟨g2, k * 2, none⟩ = some (.int .i64 m) := fun u => (u.h.cell l2).trans (by rw [hm]; exact w2)
      have q1 : ∀ u : Under wr, u.x.cell? ⟨g1, k * 2 + 1, none⟩ = some (.slice pa n ca) := fun u => (u.h.cell l1).trans (by rw [hn]; exact x1)
      have r1 : ∀ u : Under wr, u.x.cell? ⟨g2, k * 2 + 1, none⟩ = some (.slice pb n cb) := fun u => (u.h.cell l2).trans (by rw [hn]; exact x2)
      have s0 : ∀ u : Under wr, u.x.cell? ⟨w.heap.size, 0, none⟩ = some (.slice (some ⟨g1, 0, none⟩) f.length c1) := fun u => (X.next u.h).c0
      have s1 : ∀ u : Under wr, u.x.cell? ⟨w.heap.size + 1, 0, none⟩ = some (.slice (some ⟨g2, 0, none⟩) f.length c2) := fun u => (Y.next u.h).c0
      have HC : Hid (∀ u : Under wr, Calls Try.prog 26 #[.slice pa n ca, .slice pb n cb] u.x fun e w' => e = .returned (.bool true) ∧ Below u.x.heap.size u.x w') := by rw [hn]; exact fun u => sameEntries_any pa pb ca cb f[k].es u.x (t1.step u.h) (t2.step u.h) (HS.out f[k] (List.getElem_mem _))
      have hnu : Nonempty (Under wr) := ⟨⟨wr, Below.refl _ _⟩⟩
      clear x1 x2 w1 w2 R1 R2 t1 t2 hm hn X Y a0 b0
      have a0 := s0 ⟨wr, Below.refl _ _⟩
      go_wp2_with fail
      refine wp_region_under (by kernel_rfl) (by kernel_rfl) ?_
      repeat (go_big_quiet_step ((go_at_call 26; exact calls_under _ (HC.out _))))
      refine wpQuiet_nil ?_
      rintro _ ⟨u, rfl⟩
      go_wp2_with fail
      go_roundw
      case rel => exact ⟨k + 1, by omega, by go_num, hbel.trans (u.h.mono hbel.size)⟩
      case measure => simp [intOf]; omega
    · have hlt2 : ¬ (k : Int) < (f.length : Int) := by omega
      have hbz := hbw.trans (hbel.mono hbw.size)
      go_wp2_with fail
      go_ret
      exact ⟨rfl, hbz⟩

set_option maxRecDepth 4000 in
set_option maxHeartbeats 1000000 in
theorem drawnTree_any (x : Option Addr) (cap : Nat) (zs : List Int) (w : World) (h : InC w x zs) :
    Calls Try.prog 13 #[.slice x zs.length cap] w fun e' w' => (∃ (v : Value) (f : List Pg) (next : Int), e' = .returned (.agg #[v, .int .i64 next]) ∧ OwnT w' w.heap.size v f ∧ treeB f next = true ∧ f.length ≤ 24 ∧ next ≤ 25 ∧ ∀ e ∈ allE f, EntD e) ∧ Below w.heap.size w w' := by
  have hb0 : Below w.heap.size w (w.alloc (.cells #[.slice none 0 0, .int .i64 0] 37)) := (Below.refl _ _).alloc (Nat.le_refl _) _
  have hrb0 : (w.alloc (.cells #[.slice none 0 0, .int .i64 0] 37)).heap[w.heap.size]? = some (.cells #[.slice none 0 0, .int .i64 0] 37) := heap_alloc_new w _
  have HS : Hid (Calls _ _ _ _ _) := l00Source_any x cap zs _ (h.step hb0)
  have HB0 : Hid (Below _ _ _) := hb0
  have HRB : Hid ((w.alloc (.cells #[.slice none 0 0, .int .i64 0] 37)).heap[w.heap.size]? = _) := hrb0
  have HS0 : Hid ((w.alloc (.cells #[.slice none 0 0, .int .i64 0] 37)).heap.size = w.heap.size + 1) := by show _ = _; simp
  clear h hb0 hrb0
  go_enter Try.func13, Try.ntmps13
  go_wp2_with fail
  refine HS.out.mono ?_
  rintro e' w1 ⟨rfl, s1, b1⟩
  have HB1 : Hid (Below _ _ _) := b1
  have HS1 : Hid (SrcAt w1 (w.heap.size + 1) x cap zs 0) := by
    show SrcAt w1 (w.heap.size + 1) x cap zs 0
    rw [← HS0.out]; exact s1
  clear s1 b1 HS
  go_wp2_with fail
  refine (drawTree_any _ x cap zs 0 w1 HS1.out (by omega)).mono ?_
  rintro e' w2 ⟨⟨v, f, next, rfl, hO, hT, hl, hn, hA⟩, hd⟩
  obtain ⟨pv, cv, rfl⟩ := hO.shape
  have hsz1 : w.heap.size + 1 < w1.heap.size := HS1.out.lt
  have hrb : w2.heap[w.heap.size]? = some (.cells #[.slice none 0 0, .int .i64 0] 37) := (hd.1.block _ (by omega) (fun e => by injection e with e; omega)).trans ((HB1.out.block _ (by rw [HS0.out]; omega)).trans HRB.out)
  obtain ⟨r0, r1, q0, q1⟩ := two_cells hrb
  have hbw : Below w.heap.size w w2 := by
    have hg := (grown_below (row := none) (HB0.out.trans (HB1.out.mono HB0.out.size)))
    refine Below.grown (Below.refl _ _) (hg.andThen hd.1 (fun j hj => .inl ?_)) (Nat.le_refl _) (fun k h => by cases h)
    injection hj with hj; rw [← hj]; omega
  have hsz2 := hd.1.size
  have HO : Hid (OwnT _ _ _ _) := hO
  have HA : Hid _ := hA
  have hnn : w.heap.size < w2.heap.size := by omega
  clear hO hA hrb hd HB0 HB1 HRB
  go_wp2_with fail
  refine bodyPost_ret (v := .agg #[.slice pv f.length cv, .int .i64 next]) (by simp [results, Try.results13, go_sem, *]) rfl ⟨⟨_, f, next, rfl, ?_, hT, hl, hn, HA.out⟩, ?_⟩
  · exact OwnT.mono ((HO.out.grown grown_set (by omega)).grown grown_set (by omega)) (by omega)
  · (repeat (first | (with_reducible exact Below.refl _ _) | (with_reducible assumption) | (with_reducible apply below_drewN) | (with_reducible apply Below.drew) | ((with_reducible refine Below.setCell ?_ ?_ _); rotate_left; focus (first | (simp; done) | (simp; omega) | omega)) | ((with_reducible refine Below.alloc ?_ ?_ _); rotate_left; focus (first | (simp; done) | (simp; omega) | omega))))
set_option maxRecDepth 4000 in
set_option maxHeartbeats 1000000 in
theorem drawnEntry_any (x : Option Addr) (cap : Nat) (zs : List Int) (w : World) (h : InC w x zs) :
    Calls Try.prog 14 #[.slice x zs.length cap] w fun e' w' => (∃ e : Ent, e' = .returned (.agg #[.string e.key, .int .i64 e.id]) ∧ EntD e) ∧ Below w.heap.size w w' := by
  have hb0 : Below w.heap.size w (w.alloc (.cells #[.string em, .int .i64 0] 40)) := (Below.refl _ _).alloc (Nat.le_refl _) _
  have hrb0 : (w.alloc (.cells #[.string em, .int .i64 0] 40)).heap[w.heap.size]? = some (.cells #[.string em, .int .i64 0] 40) := heap_alloc_new w _
  have HS : Hid (Calls _ _ _ _ _) := l00Source_any x cap zs _ (h.step hb0)
  have HB0 : Hid (Below _ _ _) := hb0
  have HRB : Hid ((w.alloc (.cells #[.string em, .int .i64 0] 40)).heap[w.heap.size]? = _) := hrb0
  have HS0 : Hid ((w.alloc (.cells #[.string em, .int .i64 0] 40)).heap.size = w.heap.size + 1) := by show _ = _; simp
  clear h hb0 hrb0
  go_enter Try.func14, Try.ntmps14
  go_wp2_with fail
  refine HS.out.mono ?_
  rintro e' w1 ⟨rfl, s1, b1⟩
  have HB1 : Hid (Below _ _ _) := b1
  have HS1 : Hid (SrcAt w1 (w.heap.size + 1) x cap zs 0) := by
    show SrcAt w1 (w.heap.size + 1) x cap zs 0
    rw [← HS0.out]; exact s1
  clear s1 b1 HS
  go_wp2_with fail
  refine (drawEntry_any _ x cap zs 0 w1 HS1.out (by omega)).mono ?_
  rintro e' w2 ⟨⟨e, rfl, hE⟩, hd⟩
  have hsz1 : w.heap.size + 1 < w1.heap.size := HS1.out.lt
  have hrb : w2.heap[w.heap.size]? = some (.cells #[.string em, .int .i64 0] 40) := (hd.1.block _ (by omega) (fun e => by injection e with e; omega)).trans ((HB1.out.block _ (by rw [HS0.out]; omega)).trans HRB.out)
  obtain ⟨r0, r1, q0, q1⟩ := two_cells hrb
  have hbw : Below w.heap.size w w2 := by
    have hg := (grown_below (row := none) (HB0.out.trans (HB1.out.mono HB0.out.size)))
    refine Below.grown (Below.refl _ _) (hg.andThen hd.1 (fun j hj => .inl ?_)) (Nat.le_refl _) (fun k h => by cases h)
    injection hj with hj; rw [← hj]; omega
  have hsz2 := hd.1.size
  have hnn : w.heap.size < w2.heap.size := by omega
  clear hrb hd HB0 HB1 HRB
  go_wp2_with fail
  refine bodyPost_ret (v := .agg #[.string e.key, .int .i64 e.id]) (by simp [results, Try.results14, go_sem, *]) rfl ⟨⟨e, rfl, hE⟩, ?_⟩
  (repeat (first | (with_reducible exact Below.refl _ _) | (with_reducible assumption) | (with_reducible apply below_drewN) | (with_reducible apply Below.drew) | ((with_reducible refine Below.setCell ?_ ?_ _); rotate_left; focus (first | (simp; done) | (simp; omega) | omega)) | ((with_reducible refine Below.alloc ?_ ?_ _); rotate_left; focus (first | (simp; done) | (simp; omega) | omega))))

theorem tree_ahead {f : List Pg} {next : Int} (h : treeB f next = true) : ∀ x ∈ allE f, lessE e0 x = true := fun x hx => (((chainB_iff e0 (allE f)).1 ((treeB_iff f next).1 h).2.2.2.2).1 x hx).2
theorem place_first {f : List Pg} {next : Int} (h : treeB f next = true) : place f e0 = 0 := by
  rcases Nat.eq_zero_or_pos (place f e0) with h0 | h0
  · exact h0
  · exfalso
    have h1 := place_at f e0 h0
    have hk := place_lt f e0 (tree_pos h)
    unfold atN at h1
    rw [List.getElem?_eq_getElem hk] at h1
    dsimp only at h1
    unfold atB at h1
    split at h1
    · cases h1
    · rename_i x t hx
      have hm : x ∈ allE f := mem_allE.2 ⟨_, List.getElem_mem hk, by rw [hx]; exact List.mem_cons_self⟩
      rw [tree_ahead h x hm] at h1
      cases h1
def allIv : Ivl := ⟨em, em, true⟩
theorem hasI_all (k : ByteArray) : hasI allIv k = true := by
  unfold hasI allIv
  simp only [Bool.true_or, Bool.and_true]
  rw [less_total k.toList em.toList]
  have : em.toList = [] := by first | (simp [em]; done) | kernel_rfl | decide +kernel
  rw [this]; cases k.toList <;> simp [Op.bytesLess]
theorem while_all {α : Type} (P : α → Bool) : ∀ l : List α, (∀ x ∈ l, P x = true) → l.takeWhile P = l
  | [], _ => rfl
  | a :: t, h => by rw [List.takeWhile_cons, if_pos (h a List.mem_cons_self), while_all P t (fun x hx => h x (List.mem_cons_of_mem _ hx))]
theorem over_all {f : List Pg} {next : Int} (h : treeB f next = true) : overP f allIv = f := by
  have h0 : loP f allIv = 0 := place_first h
  unfold overP
  rw [h0]
  have : (f.drop (0 + 1)).takeWhile (goB allIv) = f.drop 1 := by
    exact while_all _ _ (fun p _ => by unfold goB allIv; simp)
  rw [this, List.drop_zero, List.take_append_drop]
theorem range_all {f : List Pg} {next : Int} (h : treeB f next = true) : rangeE f next allIv = allE f ∧ (rangeN f next allIv).length = f.length ∧ rangeC f next = 0 := by
  unfold rangeE rangeN rangeC
  rw [if_pos h, if_pos h, if_pos h, over_all h]
  refine ⟨?_, numsOf_len f, rfl⟩
  unfold entsOf
  rw [List.filter_eq_self.2 (fun e _ => hasI_all e.key)]; rfl
theorem once_at (P S : List Ent) (e : Ent) (hno : e ∉ P ++ S) : ∃ d, d < (P ++ e :: S).length ∧ ∀ j (h : j < (P ++ e :: S).length), (P ++ e :: S)[j] = e ↔ j = d := by
  refine ⟨P.length, by simp, fun j h => ⟨fun he => ?_, fun he => ?_⟩⟩
  · rcases Nat.lt_trichotomy j P.length with h1 | h1 | h1
    · rw [List.getElem_append_left h1] at he
      exact absurd (List.mem_append_left S (by rw [← he]; exact List.getElem_mem h1)) hno
    · exact h1
    · rw [List.getElem_append_right (by omega)] at he
      obtain ⟨m, hm⟩ : ∃ m, j - P.length = m + 1 := ⟨j - P.length - 1, by omega⟩
      simp only [hm, List.getElem_cons_succ] at he
      exact absurd (List.mem_append_right P (by rw [← he]; exact List.getElem_mem _)) hno
  · subst he
    rw [List.getElem_append_right (Nat.le_refl _)]; simp
theorem eqlEnt4 (a c : ByteArray) (b d : Int) (w : World) : (binOp .eql 40 (.agg #[.string a, .int .i64 b]) (.agg #[.string c, .int .i64 d])).run Try.prog w = .ok (.bool (a.toList == c.toList && b == d)) w := by
  rw [run_eql_struct, eqEnt]; rfl
end Go.Proofs.Ytnmpfooegnmknaa.Tr

/- A range has just the entries that its interval has, and all pages where such ones stand: said plainly. -/
namespace Go.Proofs.Ytnmpfooegnmknaa.Tr
open Go.RowKit
set_option linter.unusedVariables false

theorem over_split (f : List Pg) (iv : Ivl) : f = f.take (loP f iv) ++ (overP f iv ++ (f.drop (loP f iv + 1)).dropWhile (goB iv)) := by
  unfold overP
  conv => lhs; rw [← List.take_append_drop (loP f iv) f]
  congr 1
  rw [List.append_assoc, List.takeWhile_append_dropWhile]
  conv => lhs; rw [← List.take_append_drop 1 (f.drop (loP f iv))]
  rw [List.drop_drop]
theorem not_less_lo {iv : Ivl} {x : Ent} (h : lessE x ⟨iv.lo, -1⟩ = true) (h0 : 0 ≤ x.id) : hasI iv x.key = false := by
  unfold lessE at h
  rw [Bool.or_eq_true, Bool.and_eq_true, decide_eq_true_eq] at h
  have hb : Op.bytesLess x.key.toList iv.lo.toList = true := by
    rcases h with h | ⟨_, h⟩
    · exact h
    · exfalso; simp at h; omega
  unfold hasI
  rw [less_total, hb]; rfl
theorem ahead_not {f : List Pg} {next : Int} {iv : Ivl} (h : treeB f next = true) {x : Ent} (hx : x ∈ allE (f.take (loP f iv))) : hasI iv x.key = false := by
  refine not_less_lo (ahead_less h hx) ?_
  have hm : x ∈ allE f := by
    obtain ⟨p, hp, hxp⟩ := mem_allE.1 hx
    exact mem_allE.2 ⟨p, List.mem_of_mem_take hp, hxp⟩
  have he := (((chainB_iff e0 (allE f)).1 ((treeB_iff f next).1 h).2.2.2.2).1 x hm).1
  unfold entB at he
  simp at he; omega
theorem lessE_key {a b : Ent} (h : lessE a b = true) {t : List UInt8} (ht : Op.bytesLess a.key.toList t = false) : Op.bytesLess b.key.toList t = false := by
  rw [Bool.eq_false_iff]; intro hb
  unfold lessE at h
  rw [Bool.or_eq_true, Bool.and_eq_true] at h
  rcases h with h | ⟨h, _⟩
  · have := less_trans _ _ _ h hb; rw [this] at ht; cases ht
  · rw [(eqL _ _).1 h] at ht; rw [ht] at hb; cases hb
theorem behind_not {f : List Pg} {next : Int} {iv : Ivl} (h : treeB f next = true) {x : Ent} (hx : x ∈ allE ((f.drop (loP f iv + 1)).dropWhile (goB iv))) : hasI iv x.key = false := by
  have hch := ((chainB_iff e0 (allE f)).1 ((treeB_iff f next).1 h).2.2.2.2).2
  have hsp := over_split f iv
  rw [hsp, allE_append, allE_append] at hch
  have h2 := (List.pairwise_append.1 (List.pairwise_append.1 hch).2.1).2.1
  clear hch hsp
  cases hr : (f.drop (loP f iv + 1)).dropWhile (goB iv) with
  | nil => rw [hr] at hx; simp [allE] at hx
  | cons p r =>
    rw [hr] at hx h2
    have hp : goB iv p = false := by
      have := List.head?_dropWhile_not (goB iv) (f.drop (loP f iv + 1))
      rw [hr] at this; simpa using this
    rw [allE_cons] at hx h2
    unfold goB at hp
    rw [Bool.or_eq_false_iff] at hp
    obtain ⟨hop, hp⟩ := hp
    cases hes : p.es with
    | nil => rw [hes] at hp; cases hp
    | cons a t =>
      rw [hes] at hp hx h2
      have ha : Op.bytesLess a.key.toList iv.hi.toList = false := by simpa using hp
      have hxh : Op.bytesLess x.key.toList iv.hi.toList = false := by
        rw [List.cons_append, List.mem_cons] at hx
        rcases hx with rfl | hx
        · exact ha
        · rw [List.cons_append, List.pairwise_cons] at h2
          exact lessE_key (h2.1 x hx) ha
      unfold hasI; rw [hop, hxh]; simp
/-- A range has just the entries of its interval. -/
theorem range_just {f : List Pg} {next : Int} (iv : Ivl) (h : treeB f next = true) : rangeE f next iv = (allE f).filter fun e => hasI iv e.key := by
  unfold rangeE
  rw [if_pos h]
  conv => rhs; rw [over_split f iv]
  rw [allE_append, allE_append, List.filter_append, List.filter_append]
  have e1 : (allE (f.take (loP f iv))).filter (fun e => hasI iv e.key) = [] := List.filter_eq_nil_iff.2 fun x hx => by rw [ahead_not h hx]; simp
  have e2 : (allE ((f.drop (loP f iv + 1)).dropWhile (goB iv))).filter (fun e => hasI iv e.key) = [] := List.filter_eq_nil_iff.2 fun x hx => by rw [behind_not h hx]; simp
  rw [e1, e2, List.append_nil, List.nil_append]; rfl
/-- The page of an entry that the interval has is among those that were looked at. -/
theorem page_named {f : List Pg} {next : Int} (iv : Ivl) (h : treeB f next = true) {x : Ent} (hx : x ∈ allE f) (hh : hasI iv x.key = true) : ∃ m, pageAtT f next x = (m, 0) ∧ m ∈ rangeN f next iv := by
  obtain ⟨p, hp, hxp⟩ := in_place h hx
  obtain ⟨hk, rfl⟩ := List.getElem?_eq_some_iff.1 hp
  have he : entB x = true := (((chainB_iff e0 (allE f)).1 ((treeB_iff f next).1 h).2.2.2.2).1 x hx).1
  refine ⟨f[place f x].num, ?_, ?_⟩
  · unfold pageAtT; rw [if_pos (by rw [h, he]; rfl), getD_of f _ hk]
  · unfold rangeN; rw [if_pos h]
    have hm : f[place f x] ∈ f := List.getElem_mem hk
    obtain ⟨pg, hpg⟩ : ∃ pg, pg = f[place f x] := ⟨_, rfl⟩
    rw [← hpg] at hm hxp ⊢
    have hm2 : pg ∈ f.take (loP f iv) ++ (overP f iv ++ (f.drop (loP f iv + 1)).dropWhile (goB iv)) := by rw [← over_split]; exact hm
    rw [List.mem_append, List.mem_append] at hm2
    have hgen : pg ∈ overP f iv := by
      rcases hm2 with hm | hm | hm
      · have := ahead_not (iv := iv) h (mem_allE.2 ⟨_, hm, hxp⟩); rw [hh] at this; cases this
      · exact hm
      · have := behind_not (iv := iv) h (mem_allE.2 ⟨_, hm, hxp⟩); rw [hh] at this; cases this
    unfold numsOf; exact List.mem_map_of_mem hgen
end Go.Proofs.Ytnmpfooegnmknaa.Tr

/- What the law of ranges leans on besides: bytes appended, rows of numbers, a byte out of a code. -/
namespace Go.Proofs.Ytnmpfooegnmknaa.Tr
open Go.RowKit
set_option linter.unusedVariables false

theorem infoU8 : (Try.prog.info? 5).map (fun i => (i.zero, i.size, i.bytes)) = some (some (.int .u8 0), 1, 1) := by kernel_rfl
def byteV (zs : List Int) : List Value := zs.map (Value.int .u8)
theorem byteV_get (zs : List Int) (i : Nat) (h : i < zs.length) : (byteV zs)[i]? = some (.int .u8 (zs.getD i 0)) := by
  unfold byteV; rw [List.getElem?_map, List.getElem?_eq_getElem h, gd zs i h]; rfl
set_option maxRecDepth 8000 in
/-- A byte, and a code's bytes behind it. -/
theorem app_bytes (bb : Nat) (x : Option Addr) (cap : Nat) (zs : List Int) (w : World) (ty : TypeId) (hb : w.cell? ⟨bb, 0, none⟩ = some (.int .u8 4)) (hbl : bb < w.heap.size) (h : InC w x zs) (hl : zs.length ≤ 1048576) :
    ∃ g c' w', (Builtin.append_ #[22, 22] ty #[.slice (some ⟨bb, 0, none⟩) 1 1, .slice x zs.length cap]).run Try.prog w = .ok (.slice (some ⟨g, 0, none⟩) (4 :: zs : List Int).length c') w' ∧ InC w' (some ⟨g, 0, none⟩) (4 :: zs) ∧ Below w.heap.size w w' := by
  obtain ⟨i0, hi, hz0, hz1, hz2⟩ := info_parts infoU8
  have hbytes : ∀ i, i < (4 :: zs : List Int).length → 0 ≤ (4 :: zs : List Int).getD i 0 ∧ (4 :: zs : List Int).getD i 0 < 256 := by
    intro i hi
    match i, hi with
    | 0, _ => exact ⟨by simp, by simp⟩
    | i + 1, hi => simpa using h.bytes i (by simpa using hi)
  have hlen : (4 :: zs : List Int).length = 1 + zs.length := by simp; omega
  have hle : (4 :: zs : List Int).length ≤ 2097152 := by rw [hlen]; omega
  rcases Nat.eq_zero_or_pos zs.length with h0 | h0
  · obtain rfl := List.eq_nil_of_length_eq_zero h0
    have hsrc : Src Try.prog i0.size 22 (.slice x 0 cap) 0 [] w := by
      cases x with
      | none => exact Src.ofNil (P := Try.prog) w (e' := 5) Try.underlying22 cap
      | some a => exact Src.ofSlice (P := Try.prog) w (e' := 5) Try.underlying22 a 0 cap [] (by simp) (fun j u hj => by simp at hj) (fun u hu => by cases hu)
    have hr := run_append_room_src (P := Try.prog) w 22 22 ty 5 i0 Try.underlying22 hi bb 0 1 1 (.slice x 0 cap) 0 [] hsrc (by omega) (fun j hj => absurd hj (by simp)) (fun j hj => absurd hj (by simp))
    refine ⟨bb, 1, w, hr, ⟨.inr ⟨bb, 0, rfl, hbl, fun i hi => ?_⟩, hbytes, hle⟩, Below.refl _ _⟩
    have : i = 0 := by simp at hi; exact hi
    subst this; simpa using hb
  · obtain ⟨b, off, rfl, hlt, hc⟩ : ∃ b off, x = some ⟨b, off, none⟩ ∧ b < w.heap.size ∧ ∀ i, i < zs.length → w.cell? ⟨b, off + i, none⟩ = some (.int .u8 (zs.getD i 0)) := by
      rcases h.inb with h1 | h1
      · omega
      · exact h1
    have hadd : ∀ (b o j : Nat), (⟨b, o, none⟩ : Addr).add j = ⟨b, o + j, none⟩ := fun b o j => by unfold Addr.add; split <;> simp_all
    have hbv : (byteV zs).length = zs.length := by unfold byteV; simp
    have hcs : ∀ j u, (byteV zs)[j]? = some u → w.cell? ((⟨b, off, none⟩ : Addr).add j) = some u := by
      intro j u hj
      have hjl : j < zs.length := by
        rcases Nat.lt_or_ge j zs.length with h | h
        · exact h
        · rw [List.getElem?_eq_none (by omega)] at hj; cases hj
      rw [byteV_get zs j hjl] at hj; injection hj with hj
      rw [hadd, ← hj]; exact hc j hjl
    have hsrc : Src Try.prog i0.size 22 (.slice (some ⟨b, off, none⟩) zs.length cap) zs.length (byteV zs) w :=
      Src.ofSlice (P := Try.prog) w (e' := 5) Try.underlying22 ⟨b, off, none⟩ zs.length cap (byteV zs) (by rw [hz1, hbv, Nat.mul_one]) hcs (fun u hu => by
        unfold byteV at hu; obtain ⟨_, _, rfl⟩ := List.mem_map.1 hu; rfl)
    have hold := (Src.ofSlice (P := Try.prog) (size := i0.size) w (e' := 5) Try.underlying22 ⟨bb, 0, none⟩ 1 1 [.int .u8 4] (by rw [hz1]; rfl) (fun j u hj => by
        have : j = 0 := by
          rcases Nat.eq_zero_or_pos j with h | h
          · exact h
          · rw [List.getElem?_eq_none (by simp; omega)] at hj; cases hj
        subst this
        simp at hj; rw [hadd, ← hj]; simpa using hb) (fun u hu => by simp at hu; rw [hu]; rfl)).cellsD
    have hr := run_append_grow_src (P := Try.prog) w 22 22 ty 5 i0 _ Try.underlying22 hi hz0 (some ⟨bb, 0, none⟩) 1 1 [.int .u8 4] hold (.slice (some ⟨b, off, none⟩) zs.length cap) zs.length (byteV zs) hsrc (by omega) (by omega) (by rw [hz2]; have := nextslicecap_le (need := 1 + zs.length) (old := 1) (by omega); omega)
    refine ⟨w.heap.size, _, _, by rw [hlen]; exact hr, ⟨.inr ⟨w.heap.size, 0, rfl, by simp, fun i hi => ?_⟩, hbytes, hle⟩, (Below.refl _ _).drew.alloc (by simp) _⟩
    have hs0 : w.drew.heap.size = w.heap.size := rfl
    have hcell : ∀ (W : World) (cs : Array Value) (T : TypeId) (j : Nat), (W.alloc (.cells cs T)).cell? ⟨W.heap.size, j, none⟩ = cs[j]? := fun W cs T j => World.cell?_alloc_new W cs T j
    rw [Nat.zero_add, ← hs0, hcell, Array.getElem?_append_left (by rw [List.size_toArray, List.length_append, hbv]; simp at hi ⊢; omega)]
    match i, hi with
    | 0, _ => simp
    | i + 1, hi => simpa using byteV_get zs i (by simpa using hi)

theorem wpList_app_bytes {w : World} {ops : Array Oper} {rest : List Oper} {o : Oper} {a : Act} {Q : Exit → Act → World → Prop} (hgd : o.guard = none) (s x : Operand)
    (ho : o.op = .call { callee := .builtin .append, args := #[s, x], argTypes := #[22, 22] }) (bb : Nat) (xx : Option Addr) (cap : Nat) (zs : List Int)
    (hs : a.eval s = .slice (some ⟨bb, 0, none⟩) 1 1) (hx : a.eval x = .slice xx zs.length cap) (hb : w.cell? ⟨bb, 0, none⟩ = some (.int .u8 4)) (hbl : bb < w.heap.size) (h : InC w xx zs) (hl : zs.length ≤ 1048576)
    (hK : ∀ g c' w' nz, nz = (4 :: zs : List Int).length → InC w' (some ⟨g, 0, none⟩) (4 :: zs) → Below w.heap.size w w' → wpList Try.prog ops Q rest (a.put o.dst (.slice (some ⟨g, 0, none⟩) nz c')) w') :
    wpList Try.prog ops Q (o :: rest) a w := by
  refine wpList_plain hgd fun K hK2 => ?_
  obtain ⟨g, c', w', hr, h2, h3⟩ := app_bytes bb xx cap zs w o.type hb hbl h hl
  unfold Oper.wp execOp
  simp only [ho, resolve, invoke, builtin, Sem.run_bind, Sem.run_pure, Result.andThen_ok, List.map_toArray, List.map_cons, List.map_nil, hs, hx, hr]
  exact hK2 _ _ (hK g c' w' _ rfl h2 h3)
/-- Numbers in a row. -/
def InI (w : World) (p : Option Addr) (l : List Int) : Prop := l.length = 0 ∨ ∃ g, p = some ⟨g, 0, none⟩ ∧ g < w.heap.size ∧ ∀ i (h : i < l.length), w.cell? ⟨g, i, none⟩ = some (.int .i64 l[i])
theorem InI.step {w w' : World} {p : Option Addr} {l : List Int} (h : InI w p l) (hb : Below w.heap.size w w') : InI w' p l := by
  rcases h with h | ⟨g, hp, hl, hc⟩
  · exact .inl h
  · exact .inr ⟨g, hp, Nat.lt_of_lt_of_le hl hb.size, fun i hi => (hb.cell hl).trans (hc i hi)⟩
theorem OwnI.inI {w : World} {base : Nat} {v : Value} {l : List Int} (h : OwnI w base v l) : ∃ p c, v = .slice p l.length c ∧ InI w p l := by
  obtain ⟨p, c, rfl⟩ := owns_slice h
  refine ⟨p, c, rfl, ?_⟩
  rcases Nat.eq_zero_or_pos l.length with h0 | h0
  · exact .inl h0
  · obtain ⟨g, c', hv, _, hg, _, _⟩ := owns_form h h0
    cases hv
    exact .inr ⟨g, rfl, hg, fun i hi => owns_cell h i _ (by unfold intsV; rw [List.getElem?_map, List.getElem?_eq_getElem hi]; rfl)⟩
set_option maxRecDepth 4000 in
set_option maxHeartbeats 1000000 in
theorem sameInts_any (p1 p2 : Option Addr) (c1 c2 : Nat) (l : List Int) (w : World) (h1 : InI w p1 l) (h2 : InI w p2 l) (hlen : l.length ≤ 1048576) :
    Calls Try.prog 27 #[.slice p1 l.length c1, .slice p2 l.length c2] w fun e w' => e = .returned (.bool true) ∧ Below w.heap.size w w' := by
  have H1 : Hid (InI _ _ _) := h1
  have H2 : Hid (InI _ _ _) := h2
  clear h1 h2
  go_enter Try.func27, Try.ntmps27
  go_wp2_with fail
  go_loopw [5] (fun i wr => ∃ k : Nat, k ≤ l.length ∧ i = .int .i64 k ∧ Below w.heap.size w wr) (fun i _ => l.length - (intOf i).toNat)
  case atStart => exact ⟨0, Nat.zero_le _, rfl, Below.refl _ _⟩
  case round =>
    obtain ⟨k, hk, rfl, hbel⟩ := hrel
    by_cases hlt : k < l.length
    · rcases H1.out.step hbel with h0 | ⟨g1, rfl, l1, x1⟩
      · omega
      rcases H2.out.step hbel with h0 | ⟨g2, rfl, l2, x2⟩
      · omega
      have hk1 : (k : Int) < (l.length : Int) := by omega
      obtain ⟨e, he⟩ : ∃ e, e = l[k] := ⟨_, rfl⟩
      have q0 : ∀ u : Under wr, u.x.cell? ⟨g1, k, none⟩ = some (.int .i64 e) := fun u => (u.h.cell l1).trans (by rw [he]; exact x1 k hlt)
      have r0 : ∀ u : Under wr, u.x.cell? ⟨g2, k, none⟩ = some (.int .i64 e) := fun u => (u.h.cell l2).trans (by rw [he]; exact x2 k hlt)
      have hnu : Nonempty (Under wr) := ⟨⟨wr, Below.refl _ _⟩⟩
      clear x1 x2 he
      go_wp2_with fail
      refine wp_region_under (by kernel_rfl) (by kernel_rfl) ?_
      repeat (go_big_quiet_step (fail))
      refine wpQuiet_nil ?_
      rintro _ ⟨u, rfl⟩
      go_wp2_with fail
      go_roundw
      case rel => exact ⟨k + 1, by omega, by go_num, hbel.trans (u.h.mono hbel.size)⟩
      case measure => simp [intOf]; omega
    · have hlt2 : ¬ (k : Int) < (l.length : Int) := by omega
      go_wp2_with fail
      go_ret
      exact ⟨rfl, hbel⟩
set_option maxRecDepth 8000 in
set_option maxHeartbeats 2000000 in
theorem codeAt_any (x : Option Addr) (cap : Nat) (zs : List Int) (n : Nat) (w : World) (h : InC w x zs) (h1 : 1 ≤ n) (hn : n ≤ 1048576) :
    Calls Try.prog 24 #[.slice x zs.length cap, .int .i64 0, .int .i64 n] w fun e w' => (∃ r : Nat, e = .returned (.int .i64 r) ∧ r < n) ∧ Below w.heap.size w w' := by
  by_cases hn1 : n ≤ 1
  · obtain rfl : n = 1 := by omega
    clear h
    go_enter Try.func24, Try.ntmps24
    go_wp2_with fail
    go_ret
    exact ⟨⟨0, rfl, by omega⟩, Below.refl _ _⟩
  have hn2 : ¬ ((n : Int) ≤ 1) := by omega
  have hnz : ((n : Int) == 0) = false := beq_eq_false_iff_ne.mpr (by omega)
  rcases h.inb with h0 | ⟨b, off, rfl, hlt, hc⟩
  · obtain rfl := List.eq_nil_of_length_eq_zero h0
    clear h
    go_enter Try.func24, Try.ntmps24
    go_wp2_with fail
    go_ret
    exact ⟨⟨0, by simp, by omega⟩, Below.refl _ _⟩
  by_cases hz : zs.length = 0
  · obtain rfl := List.eq_nil_of_length_eq_zero hz
    clear h hc
    go_enter Try.func24, Try.ntmps24
    go_wp2_with fail
    go_ret
    exact ⟨⟨0, by simp, by omega⟩, Below.refl _ _⟩
  have hlz : ((zs.length : Int) == 0) = false := beq_eq_false_iff_ne.mpr (by omega)
  have hl := h.len
  obtain ⟨y0, hy0⟩ : ∃ y0, y0 = zs.getD 0 0 := ⟨_, rfl⟩
  have c0 := hc 0 (by omega)
  have hb0 := h.bytes 0 (by omega)
  rw [Nat.add_zero, ← hy0] at c0
  rw [← hy0] at hb0
  obtain ⟨j, hj⟩ : ∃ j, j = 1 % zs.length := ⟨_, rfl⟩
  have hjl : j < zs.length := by rw [hj]; exact Nat.mod_lt _ (by omega)
  obtain ⟨y1, hy1⟩ : ∃ y1, y1 = zs.getD j 0 := ⟨_, rfl⟩
  have c1 := hc j hjl
  have hb1 := h.bytes j hjl
  rw [← hy1] at c1 hb1
  have hm : Int.tmod 1 (zs.length : Int) = (j : Int) := by rw [hj]; rfl
  have hd0 : Int.tdiv 0 (zs.length : Int) = 0 := Int.zero_tdiv _
  have hm0 : Int.tmod 0 (zs.length : Int) = 0 := Int.zero_tmod _
  have hpos : (0 : Int) < (zs.length : Int) := by omega
  have hjl2 : (j : Int) < (zs.length : Int) := by omega
  have hres : ∃ r : Nat, r < n ∧ Int.tmod (y0 * 31 + y1) (n : Int) = (r : Int) := by
    refine ⟨(y0 * 31 + y1).toNat % n, Nat.mod_lt _ (by omega), ?_⟩
    have e : y0 * 31 + y1 = (((y0 * 31 + y1).toNat : Nat) : Int) := by omega
    rw [e]; rfl
  obtain ⟨r, hrn, hr⟩ := hres
  have HRN : Hid _ := hrn
  clear h hc hy0 hy1 hj hrn
  go_enter Try.func24, Try.ntmps24
  go_wp2_with fail
  go_quiet (fail)
  go_wp2_with fail
  go_ret
  exact ⟨⟨r, by simp [*], HRN.out⟩, by (repeat (first | (with_reducible exact Below.refl _ _) | (with_reducible assumption) | (with_reducible apply below_drewN) | (with_reducible apply Below.drew) | ((with_reducible refine Below.setCell ?_ ?_ _); rotate_left; focus (first | (simp; done) | (simp; omega) | omega)) | ((with_reducible refine Below.alloc ?_ ?_ _); rotate_left; focus (first | (simp; done) | (simp; omega) | omega))))⟩
/-- An interval in three cells. -/
structure B3 (W : World) (b : Nat) (iv : Ivl) : Prop where
  lt : b < W.heap.size
  c0 : W.cell? ⟨b, 0, none⟩ = some (.string iv.lo)
  c1 : W.cell? ⟨b, 1, none⟩ = some (.string iv.hi)
  c2 : W.cell? ⟨b, 2, none⟩ = some (.bool iv.op)
theorem B3.new (W : World) (iv : Ivl) (T : TypeId) : B3 (W.alloc (.cells #[.string iv.lo, .string iv.hi, .bool iv.op] T)) W.heap.size iv := ⟨by simp, by simp [go_sem], by simp [go_sem], by simp [go_sem]⟩
theorem B3.next {W W' : World} {b : Nat} {iv : Ivl} (h : B3 W b iv) (hb : Below W.heap.size W W') : B3 W' b iv := ⟨Nat.lt_of_lt_of_le h.lt hb.size, (hb.cell h.lt).trans h.c0, (hb.cell h.lt).trans h.c1, (hb.cell h.lt).trans h.c2⟩
theorem filter_at {α : Type} (H : α → Bool) : ∀ (L : List α) (k : Nat) (hk : k < L.length), H L[k] = true → ∃ h : ((L.take k).filter H).length < (L.filter H).length, (L.filter H)[((L.take k).filter H).length] = L[k] := by
  intro L k hk hh
  have e : L.filter H = (L.take k).filter H ++ L[k] :: (L.drop (k + 1)).filter H := by
    conv => lhs; rw [← List.take_append_drop k L, List.drop_eq_getElem_cons hk]
    rw [List.filter_append, List.filter_cons, if_pos hh]
  refine ⟨by rw [e]; simp, ?_⟩
  simp only [e]
  rw [List.getElem_append_right (Nat.le_refl _)]; simp
theorem filter_take {α : Type} (H : α → Bool) (L : List α) (k : Nat) (hk : k < L.length) : (L.take (k + 1)).filter H = (L.take k).filter H ++ (if H L[k] = true then [L[k]] else []) := by
  rw [List.take_succ_eq_append_getElem hk, List.filter_append]
  congr 1
  cases h : H L[k] <;> simp [h]
end Go.Proofs.Ytnmpfooegnmknaa.Tr
