/- What is left of a chain: what the program answers. -/
import Derived.Test.YtncpijfbbgipaaaGreatDoorColQR
import Derived.Test.YtncpijfbbgipaaaGreatDoorColCR
import Derived.Laws.OwnMore
import Derived.Test.YtncpijfbbgipaaaGreatDoorColNR
import Derived.Test.YtncpijfbbgipaaaGreatDoorEncUQ
import Derived.Test.YtncpijfbbgipaaaGreatDoorDocBR
namespace Go.Proofs.YtncpijfbbgipaaaGreatDoor.Co
open Go.RowKit Tr
set_option linter.unusedVariables false

/-- What is left of a chain: its last version up to a time, where it holds a document, and the later ones. -/
def leftT (cur : Ver) (r : List Ver) : List Ver := if cur.gone then r else cur :: r
def leftV (t : Int) (l : List Ver) : List Ver := leftT (trP t l).1 (trP t l).2
def vacB (t : Int) (f : List Chn) : List Chn := f.flatMap (fun c => if (leftV t c.vs).length = 0 then [] else [⟨c.id, leftV t c.vs⟩])
theorem run_app_none {P : Program} {w : World} (base : Nat) (t ty e : TypeId) (i : TypeInfo) (size c : Nat) (ht : P.underlying t = some (.slice e)) (hi : P.info? e = some i)
    (v : Value) (n : Nat) (xs : List Value) (hown : w.ownsRow base e size v n xs) :
    (Builtin.append_ #[t, t] ty #[v, .slice none 0 c]).run P w = .ok v w := by
  rcases hown.2 with ⟨rfl, rfl⟩ | ⟨g, cap, cur, rfl, _, _, hnc, _⟩
  · simp [Builtin.append_, run_underlying ht, sizeOf, typeInfo, hi, Builtin.lenOf, Builtin.firstCells]
  · simp [Builtin.append_, run_underlying ht, sizeOf, typeInfo, hi, Builtin.lenOf, Builtin.firstCells, hnc, storeCells]
/-- Versions behind versions of one's own, wherever they came from. -/
theorem wpList_appVr {w : World} {ops : Array Oper} {rest : List Oper} {o : Oper} {a : Act} {Q : Exit → Act → World → Prop} (hgd : o.guard = none) (s x : Operand)
    (ho : o.op = .call { callee := .builtin .append, args := #[s, x], argTypes := #[65, 65] }) (base : Nat) (v : Value) (l r : List Ver) (p : Option Addr) (c : Nat)
    (hs : a.eval s = v) (hown : OwnVr w base v l) (hx : a.eval x = .slice p r.length c) (hin : InVr w p r) (hn : l.length ≤ 1000) (hm : r.length ≤ 1000) (hbase : base ≤ w.heap.size)
    (hK : ∀ v' w', OwnVr w' base v' (l ++ r) → Below base w w' → wpList Tryz.prog ops Q rest (a.put o.dst v') w') : wpList Tryz.prog ops Q (o :: rest) a w := by
  refine wpList_plain hgd fun K hK2 => ?_
  obtain ⟨i0, hi, hz0, hz1, hz2⟩ := info_parts infoVr
  unfold OwnVr at hown
  have hrun : ∃ v' w', (Builtin.append_ #[65, 65] o.type #[v, .slice p r.length c]).run Tryz.prog w = .ok v' w' ∧ OwnVr w' base v' (l ++ r) ∧ Below base w w' := by
    cases p with
    | none =>
      rcases hin with h0 | ⟨b, off, e, _⟩
      · have hr0 : r = [] := List.length_eq_zero_iff.1 h0
        subst hr0
        refine ⟨v, w, run_app_none base 65 o.type 69 i0 5 c Tryz.underlying65 hi v l.length (flatVr l) hown, ?_, Below.refl _ _⟩
        rw [List.append_nil]; exact hown
      · cases e
    | some ad =>
      have hcs : ∀ j u, (flatVr r)[j]? = some u → w.cell? (ad.add j) = some u := by
        rcases hin with h0 | ⟨b, off, e, _, hc⟩
        · have hr0 : r = [] := List.length_eq_zero_iff.1 h0
          subst hr0
          intro j u hj
          simp [flatVr] at hj
        · injection e with e
          subst e
          exact InVr.cellsOf hc
      obtain ⟨v', w', hr, h2, h3, h4, h5⟩ := run_append_own_at (P := Tryz.prog) w base 65 o.type 69 i0 (.agg #[.int .i64 0, .bool false, .int .i64 0, .int .i64 0, .string em]) 5 48 Tryz.underlying65 hi hz0 hz1 hz2 rfl (by decide) v l.length (flatVr l) hown ad r.length c (flatVr r) (flatVr_len r) hcs (flatVr_one r) (by unfold maxLen; omega) (by omega) hbase
      refine ⟨v', w', hr, ?_, (Below.refl _ _).grown h3 hbase (fun b hb => (hown.lt b hb).1)⟩
      unfold OwnVr
      rw [flatVr_app, List.length_append]; exact h2
  obtain ⟨v', w', hr, h2, h3⟩ := hrun
  unfold Oper.wp execOp
  simp only [ho, resolve, invoke, builtin, Sem.run_bind, Sem.run_pure, Result.andThen_ok, List.map_toArray, List.map_cons, List.map_nil, hs, hx, hr]
  exact hK2 _ _ (hK v' w' h2 h3)

set_option maxRecDepth 4000 in
set_option maxHeartbeats 2000000 in
theorem left_any (cur : Ver) (r : List Ver) (p : Option Addr) (c : Nat) (w : World) (hin : InVr w p r) (hl : r.length ≤ 1000) :
    Calls Tryz.prog 40 #[.agg #[.int .i64 cur.tm, .bool cur.gone, .int .i64 cur.doc.k, .int .i64 cur.doc.n, .string cur.doc.t, .slice p r.length c]] w fun e w' => (∃ p' c', e = .returned (.slice p' (leftT cur r).length c') ∧ InVr w' p' (leftT cur r)) ∧ Below w.heap.size w w' := by
  have hbA : Below w.heap.size w (w.alloc (.cells #[.int .i64 cur.tm, .bool cur.gone, .int .i64 cur.doc.k, .int .i64 cur.doc.n, .string cur.doc.t, .slice p r.length c] 71)) := (Below.refl _ _).alloc (Nat.le_refl _) _
  have HI : Hid (InVr _ _ _) := hin.step hbA
  clear hin
  cases hg : cur.gone with
  | true =>
    have HL : Hid (leftT cur r = r) := by show leftT cur r = r; unfold leftT; rw [hg, if_pos rfl]
    rw [hg] at HI hbA
    go_enter Tryz.func40, Tryz.ntmps40
    go_wp2_with fail
    go_ret
    exact ⟨⟨p, c, by rw [HL.out]; try rfl, by rw [HL.out]; exact HI.out⟩, hbA⟩
  | false =>
    have HL : Hid (leftT cur r = [cur] ++ r) := by show leftT cur r = _; unfold leftT; rw [hg, if_neg (by simp)]; rfl
    have HG : Hid (cur.gone = false) := hg
    rw [hg] at HI hbA
    clear hg
    go_enter Tryz.func40, Tryz.ntmps40
    go_wp2_with (at_builtin; refine wpList_appVr rfl (.tmp 10) (.tmp 12) rfl (w.heap.size + 1) (.slice (some ⟨w.heap.size + 1, 0, none⟩) 1 1) [cur] r p c rfl ?c1 rfl ?c2 (by simp) hl (by simp) ?_)
    case c1 =>
      have h := World.ownsRow_lit (base := w.heap.size + 1) (e := 69) (size := 5) (w.alloc (.cells #[.int .i64 cur.tm, .bool false, .int .i64 cur.doc.k, .int .i64 cur.doc.n, .string cur.doc.t, .slice p r.length c] 71)) #[.int .i64 cur.tm, .bool false, .int .i64 cur.doc.k, .int .i64 cur.doc.n, .string cur.doc.t] 1 (by simp) (by unfold maxLen; omega) rfl
      unfold OwnVr flatVr
      simp only [List.flatMap_cons, List.flatMap_nil, List.append_nil, List.length_cons, List.length_nil]
      unfold rowVr
      rw [HG.out]
      simpa using h
    case c2 => exact HI.out.step ((Below.refl _ _).alloc (Nat.le_refl _) _)
    intro v' w' hO hB
    obtain ⟨p', c', hv, hin'⟩ := hO.inVr
    subst hv
    have HO : Hid (InVr _ _ _) := hin'
    have hB' : Below w.heap.size w w' := (show Below w.heap.size w _ by (repeat (first | (with_reducible exact Below.refl _ _) | (with_reducible assumption) | (with_reducible apply below_drewN) | (with_reducible apply Below.drew) | ((with_reducible refine Below.setCell ?_ ?_ _); rotate_left; focus (first | (simp; done) | (simp; omega) | omega)) | ((with_reducible refine Below.alloc ?_ ?_ _); rotate_left; focus (first | (simp; done) | (simp; omega) | omega))))).trans (hB.mono (by omega))
    clear hB hO hin'
    go_wp2_with fail
    go_ret
    exact ⟨⟨p', c', by rw [HL.out]; try rfl, by rw [HL.out]; exact HO.out⟩, hB'⟩

end Go.Proofs.YtncpijfbbgipaaaGreatDoor.Co

/- Tracks and what is left of chains, and from where the rows come: what the program answers. -/
namespace Go.Proofs.YtncpijfbbgipaaaGreatDoor.Co
open Go.RowKit Tr
set_option linter.unusedVariables false

/-- A row lies in the block of another. -/
def From (p p' : Option Addr) : Prop := ∀ b o, p' = some ⟨b, o, none⟩ → ∃ o0, p = some ⟨b, o0, none⟩
theorem From.refl (p : Option Addr) : From p p := fun b o e => ⟨o, e⟩
set_option maxRecDepth 4000 in
set_option maxHeartbeats 1000000 in
theorem trackAt_from (id time : Int) (p : Option Addr) (cap : Nat) (l : List Ver) (w : World) (hin : InVr w p l) (hl : l.length ≤ 1048576) (hcap : l.length ≤ cap) :
    Calls Tryz.prog 39 #[.agg #[.int .i64 id, .slice p l.length cap], .int .i64 time] w fun e w' => (∃ p' c', e = .returned (.agg #[.int .i64 (trP time l).1.tm, .bool (trP time l).1.gone, .int .i64 (trP time l).1.doc.k, .int .i64 (trP time l).1.doc.n, .string (trP time l).1.doc.t, .slice p' (trP time l).2.length c']) ∧ InVr w p' (trP time l).2 ∧ (trP time l).2.length ≤ c' ∧ From p p') ∧ Below w.heap.size w w' := by
  obtain ⟨R, hR⟩ : ∃ R, R = trP time l := ⟨_, rfl⟩
  rw [← hR]
  have HR : Hid (R = trk time zG l) := hR
  have HI : Hid (InVr _ _ _) := hin
  clear hR hin
  go_enter Tryz.func39, Tryz.ntmps39
  go_wp2_with fail
  have K0 : TrB2 w (((w.alloc (.cells #[.int .i64 id, .slice p l.length cap] 67)).alloc (.cells #[.int .i64 0, .bool false, .int .i64 0, .int .i64 0, .string em, .slice none 0 0] 71)).alloc (.cells #[.int .i64 0, .bool true, .int .i64 0, .int .i64 0, .string em, .slice p l.length cap] 71)) zG (.slice p l.length cap) := by
    refine ⟨by (repeat (first | (with_reducible exact Below.refl _ _) | (with_reducible assumption) | (with_reducible apply below_drewN) | (with_reducible apply Below.drew) | ((with_reducible refine Below.setCell ?_ ?_ _); rotate_left; focus (first | (simp; done) | (simp; omega) | omega)) | ((with_reducible refine Below.alloc ?_ ?_ _); rotate_left; focus (first | (simp; done) | (simp; omega) | omega)))), ?_, ?_⟩
    · rw [heap_alloc_old _ _ (by simp)]
      have := heap_alloc_new (w.alloc (.cells #[.int .i64 id, .slice p l.length cap] 67)) (.cells #[.int .i64 0, .bool false, .int .i64 0, .int .i64 0, .string em, .slice none 0 0] 71)
      rw [heap_size_alloc] at this; exact this
    · have := heap_alloc_new ((w.alloc (.cells #[.int .i64 id, .slice p l.length cap] 67)).alloc (.cells #[.int .i64 0, .bool false, .int .i64 0, .int .i64 0, .string em, .slice none 0 0] 71)) (.cells #[.int .i64 0, .bool true, .int .i64 0, .int .i64 0, .string em, .slice p l.length cap] 71)
      rw [heap_size_alloc, heap_size_alloc] at this; exact this
  generalize (((w.alloc (.cells #[.int .i64 id, .slice p l.length cap] 67)).alloc (.cells #[.int .i64 0, .bool false, .int .i64 0, .int .i64 0, .string em, .slice none 0 0] 71)).alloc (.cells #[.int .i64 0, .bool true, .int .i64 0, .int .i64 0, .string em, .slice p l.length cap] 71)) = W0 at K0 ⊢
  go_loopw [13] (fun u wr => ∃ (cur : Ver) (r : List Ver) (p' : Option Addr) (c' : Nat), R = trk time cur r ∧ TrB2 w wr cur (.slice p' r.length c') ∧ InVr w p' r ∧ r.length ≤ c' ∧ r.length ≤ 1048576 ∧ Hid (From p p')) (fun _ wr => lenOf (wr.cell? ⟨w.heap.size + 2, 5, none⟩))
  case atStart => exact ⟨zG, l, p, cap, HR.out, K0, HI.out, hcap, hl, From.refl p⟩
  case round =>
    obtain ⟨cur, r, p', c', hall, K, hin, hc, hrl, HFR⟩ := hrel
    obtain ⟨t0, t1, t2, t3, t4, t5⟩ := six K.tb
    have hs := fun o => soft K.tb o
    clear K0 HI HR
    cases r with
    | nil =>
      have HF : Hid (R = (cur, [])) := hall
      have hbw := K.bel
      obtain ⟨q0, q1, q2, q3, q4, q5⟩ := six K.rb
      have hq := fun o => soft K.rb o
      clear hall hin hc
      simp only [List.length_nil] at t5
      go_wp2_with fail
      refine bodyPost_ret (v := .agg #[.int .i64 cur.tm, .bool cur.gone, .int .i64 cur.doc.k, .int .i64 cur.doc.n, .string cur.doc.t, .slice p' 0 c']) (by simp [results, Tryz.results39, go_sem, *]) rfl ⟨⟨p', c', by rw [HF.out]; rfl, by rw [HF.out]; exact .inl rfl, by rw [HF.out]; exact Nat.zero_le _, HFR.out⟩, ?_⟩
      (repeat (first | (with_reducible exact Below.refl _ _) | (with_reducible assumption) | (with_reducible apply below_drewN) | (with_reducible apply Below.drew) | ((with_reducible refine Below.setCell ?_ ?_ _); rotate_left; focus (first | (simp; done) | (simp; omega) | omega)) | ((with_reducible refine Below.alloc ?_ ?_ _); rotate_left; focus (first | (simp; done) | (simp; omega) | omega))))
    | cons v r' =>
      rcases hin.step K.bel with h0 | ⟨b, off, rfl, hbl, hcell⟩
      · simp at h0
      obtain ⟨x0, x1, x2, x3, x4⟩ := hcell 0 (by simp)
      simp only [List.getElem_cons_zero, Nat.zero_mul, Nat.add_zero] at x0 x1 x2 x3 x4
      have hlp : (0 : Int) < ((v :: r').length : Int) := by simp
      have hlr : (v :: r').length = r'.length + 1 := rfl
      by_cases hle : v.tm ≤ time
      · rw [trk_yes time cur v r' hle] at hall
        have HA : Hid (R = trk time v r') := hall
        have hbw := K.bel
        clear hall hcell
        go_wp2_with fail
        go_region
        have hin2 : InVr w (if c' = 1 then some ⟨b, off, none⟩ else some ⟨b, off + 5, none⟩) r' := by
          have hc3 : r'.length + 1 ≤ c' := hc
          by_cases h1 : c' = 1
          · rw [if_pos h1]; exact .inl (by omega)
          · rw [if_neg h1]; exact InVr.tail hin
        have HF2 : Hid (From p (if c' = 1 then some ⟨b, off, none⟩ else some ⟨b, off + 5, none⟩)) := by
          show From p _
          intro b' o' e
          by_cases h1 : c' = 1
          · rw [if_pos h1] at e; injection e with e; injection e with e1; subst e1; exact HFR.out _ off rfl
          · rw [if_neg h1] at e; injection e with e; injection e with e1; subst e1; exact HFR.out _ off rfl
        have hc3 : r'.length ≤ c' - 1 := by have : r'.length + 1 ≤ c' := hc; omega
        have hl3 : r'.length ≤ 1048576 := by have : r'.length + 1 ≤ 1048576 := hrl; omega
        have K2 := (K.put v (.slice (if c' = 1 then some ⟨b, off, none⟩ else some ⟨b, off + 5, none⟩) r'.length (c' - 1))).drew
        go_wp2_with fail
        go_roundw
        case rel => exact ⟨v, r', _, c' - 1, HA.out, K2, hin2, hc3, hl3, HF2⟩
        case measure =>
          have e1 := (six K2.tb).2.2.2.2.2
          show lenOf (World.cell? _ ⟨w.heap.size + 2, 5, none⟩) < _
          rw [t5]
          refine Nat.lt_of_le_of_lt (Nat.le_of_eq (congrArg lenOf e1)) ?_
          show r'.length < (v :: r').length
          simp
      · rw [trk_no time cur v r' hle] at hall
        have HF : Hid (R = (cur, v :: r')) := hall
        have hbw := K.bel
        obtain ⟨q0, q1, q2, q3, q4, q5⟩ := six K.rb
        have hq := fun o => soft K.rb o
        have HIN : Hid (InVr _ _ _) := hin
        have hc2 : (v :: r').length ≤ c' := hc
        clear hall hcell hin
        obtain ⟨N, hN⟩ : ∃ N, N = (v :: r').length := ⟨_, rfl⟩
        rw [← hN] at t5 hlp hc2
        go_wp2_with fail
        refine bodyPost_ret (v := .agg #[.int .i64 cur.tm, .bool cur.gone, .int .i64 cur.doc.k, .int .i64 cur.doc.n, .string cur.doc.t, .slice (some ⟨b, off, none⟩) N c']) (by simp [results, Tryz.results39, go_sem, *]) rfl ⟨⟨_, c', by rw [HF.out, hN], by rw [HF.out]; exact HIN.out, by rw [HF.out]; exact hc, HFR.out⟩, ?_⟩
        (repeat (first | (with_reducible exact Below.refl _ _) | (with_reducible assumption) | (with_reducible apply below_drewN) | (with_reducible apply Below.drew) | ((with_reducible refine Below.setCell ?_ ?_ _); rotate_left; focus (first | (simp; done) | (simp; omega) | omega)) | ((with_reducible refine Below.alloc ?_ ?_ _); rotate_left; focus (first | (simp; done) | (simp; omega) | omega))))
set_option maxRecDepth 4000 in
set_option maxHeartbeats 2000000 in
theorem left_from (cur : Ver) (r : List Ver) (p : Option Addr) (c : Nat) (w : World) (hin : InVr w p r) (hl : r.length ≤ 1000) :
    Calls Tryz.prog 40 #[.agg #[.int .i64 cur.tm, .bool cur.gone, .int .i64 cur.doc.k, .int .i64 cur.doc.n, .string cur.doc.t, .slice p r.length c]] w fun e w' => (∃ p' c', e = .returned (.slice p' (leftT cur r).length c') ∧ InVr w' p' (leftT cur r) ∧ (p' = p ∨ ∀ b o, p' = some ⟨b, o, none⟩ → w.heap.size ≤ b)) ∧ Below w.heap.size w w' := by
  have hbA : Below w.heap.size w (w.alloc (.cells #[.int .i64 cur.tm, .bool cur.gone, .int .i64 cur.doc.k, .int .i64 cur.doc.n, .string cur.doc.t, .slice p r.length c] 71)) := (Below.refl _ _).alloc (Nat.le_refl _) _
  have HI : Hid (InVr _ _ _) := hin.step hbA
  clear hin
  cases hg : cur.gone with
  | true =>
    have HL : Hid (leftT cur r = r) := by show leftT cur r = r; unfold leftT; rw [hg, if_pos rfl]
    rw [hg] at HI hbA
    go_enter Tryz.func40, Tryz.ntmps40
    go_wp2_with fail
    go_ret
    exact ⟨⟨p, c, by rw [HL.out]; try rfl, by rw [HL.out]; exact HI.out, .inl rfl⟩, hbA⟩
  | false =>
    have HL : Hid (leftT cur r = [cur] ++ r) := by show leftT cur r = _; unfold leftT; rw [hg, if_neg (by simp)]; rfl
    have HG : Hid (cur.gone = false) := hg
    rw [hg] at HI hbA
    clear hg
    go_enter Tryz.func40, Tryz.ntmps40
    go_wp2_with (at_builtin; refine wpList_appVr rfl (.tmp 10) (.tmp 12) rfl (w.heap.size + 1) (.slice (some ⟨w.heap.size + 1, 0, none⟩) 1 1) [cur] r p c rfl ?c1 rfl ?c2 (by simp) hl (by simp) ?_)
    case c1 =>
      have h := World.ownsRow_lit (base := w.heap.size + 1) (e := 69) (size := 5) (w.alloc (.cells #[.int .i64 cur.tm, .bool false, .int .i64 cur.doc.k, .int .i64 cur.doc.n, .string cur.doc.t, .slice p r.length c] 71)) #[.int .i64 cur.tm, .bool false, .int .i64 cur.doc.k, .int .i64 cur.doc.n, .string cur.doc.t] 1 (by simp) (by unfold maxLen; omega) rfl
      unfold OwnVr flatVr
      simp only [List.flatMap_cons, List.flatMap_nil, List.append_nil, List.length_cons, List.length_nil]
      unfold rowVr
      rw [HG.out]
      simpa using h
    case c2 => exact HI.out.step ((Below.refl _ _).alloc (Nat.le_refl _) _)
    intro v' w' hO hB
    obtain ⟨p', c', hv, hin'⟩ := hO.inVr
    have HW : Hid (∀ b o, p' = some ⟨b, o, none⟩ → w.heap.size ≤ b) := by
      show ∀ b o, p' = some ⟨b, o, none⟩ → w.heap.size ≤ b
      intro b o e
      rcases OwnVr.form hO with ⟨e1, e2⟩ | ⟨g, cap, e1, e2, _⟩
      · simp at e2
      · rw [hv, e] at e1; injection e1 with e1; injection e1 with e1; injection e1 with e1; omega
    subst hv
    have HO : Hid (InVr _ _ _) := hin'
    have hB' : Below w.heap.size w w' := (show Below w.heap.size w _ by (repeat (first | (with_reducible exact Below.refl _ _) | (with_reducible assumption) | (with_reducible apply below_drewN) | (with_reducible apply Below.drew) | ((with_reducible refine Below.setCell ?_ ?_ _); rotate_left; focus (first | (simp; done) | (simp; omega) | omega)) | ((with_reducible refine Below.alloc ?_ ?_ _); rotate_left; focus (first | (simp; done) | (simp; omega) | omega))))).trans (hB.mono (by omega))
    clear hB hO hin'
    go_wp2_with fail
    go_ret
    exact ⟨⟨p', c', by rw [HL.out]; try rfl, by rw [HL.out]; exact HO.out, .inr HW.out⟩, hB'⟩
/-- Chains that are kept: a row of one's own, whose chains lie wherever they lie, but not in it. -/
structure KeptC (w : World) (base : Nat) (v : Value) (l : List Chn) (q : Nat → Option Addr) (c : Nat → Nat) (xs : List Value) : Prop where
  row : w.ownsRow base 67 2 v l.length xs
  at_ : ∀ i (h : i < l.length), xs[i * 2]? = some (.int .i64 l[i].id) ∧ xs[i * 2 + 1]? = some (.slice (q i) l[i].vs.length (c i))
  ins : ∀ i (h : i < l.length), InVr w (q i) l[i].vs
  off : ∀ i b o, i < l.length → q i = some ⟨b, o, none⟩ → some b ≠ v.ownBlock
theorem KeptC.nil (w : World) (base : Nat) (q : Nat → Option Addr) (c : Nat → Nat) : KeptC w base (.slice none 0 0) [] q c [] :=
  ⟨⟨rfl, .inl ⟨rfl, rfl⟩⟩, fun i h => absurd h (by simp), fun i h => absurd h (by simp), fun i b o h => absurd h (by simp)⟩
theorem KeptC.next {w w' : World} {base : Nat} {v : Value} {l : List Chn} {q : Nat → Option Addr} {c : Nat → Nat} {xs : List Value} (h : KeptC w base v l q c xs) (hb : Below w.heap.size w w') : KeptC w' base v l q c xs :=
  ⟨owns_below h.row hb, h.at_, fun i hi => (h.ins i hi).step hb, h.off⟩
theorem inVr_lt {w : World} {b o : Nat} {l : List Ver} (h : InVr w (some ⟨b, o, none⟩) l) (h0 : 0 < l.length) : b < w.heap.size := by
  rcases h with h | ⟨b', o', e, hl, _⟩
  · omega
  · injection e with e; injection e with e; subst e; exact hl
theorem KeptC.snoc {w w' : World} {base : Nat} {v v' : Value} {l : List Chn} {q : Nat → Option Addr} {c : Nat → Nat} {xs : List Value} {o : Obj} {en : Chn} {p : Option Addr} {cc : Nat}
    (h : KeptC w base v l q c xs) (hpos : ∀ e ∈ l, 0 < e.vs.length) (hp : 0 < en.vs.length) (hin : InVr w p en.vs) (hoff : ∀ b o, p = some ⟨b, o, none⟩ → some b ≠ v.ownBlock)
    (hr : w'.ownsRow base 67 2 v' (l.length + 1) (xs ++ [.int .i64 en.id, .slice p en.vs.length cc])) (hg : (w.alloc o).grownBy w' v.ownBlock) (hat : v'.ownBlock = v.ownBlock ∨ v'.ownBlock = some (w.alloc o).heap.size) :
    KeptC w' base v' (l ++ [en]) (fun i => if i = l.length then p else q i) (fun i => if i = l.length then cc else c i) (xs ++ [.int .i64 en.id, .slice p en.vs.length cc]) := by
  have hl : xs.length = l.length * 2 := h.row.1
  have hgo : ∀ (a : Option Addr) (r : List Ver), InVr w a r → (∀ b o, a = some ⟨b, o, none⟩ → some b ≠ v.ownBlock) → InVr w' a r := fun a r h1 h2 => (h1.step ((Below.refl _ _).alloc (Nat.le_refl _) o)).grown hg h2
  have hnew : ∀ (b : Nat), b < w.heap.size → some b ≠ v.ownBlock → some b ≠ v'.ownBlock := by
    intro b hb hne e
    rcases hat with e2 | e2
    · rw [e2] at e; exact hne e
    · rw [e2] at e; injection e with e; simp at e; omega
  refine ⟨by rw [List.length_append]; exact hr, ?_, ?_, ?_⟩
  · intro i hi
    have hi2 : i < l.length + 1 := by simpa using hi
    by_cases e : i = l.length
    · subst e
      simp only [if_pos, List.getElem_concat_length]
      rw [List.getElem?_append_right (by omega), List.getElem?_append_right (by omega), hl, Nat.sub_self, show l.length * 2 + 1 - l.length * 2 = 1 by omega]
      exact ⟨rfl, rfl⟩
    · have hi3 : i < l.length := by omega
      simp only [if_neg e]
      rw [List.getElem_append_left hi3, List.getElem?_append_left (by omega), List.getElem?_append_left (by omega)]
      exact h.at_ i hi3
  · intro i hi
    have hi2 : i < l.length + 1 := by simpa using hi
    by_cases e : i = l.length
    · subst e
      simp only [if_pos, List.getElem_concat_length]
      exact hgo _ _ hin hoff
    · have hi3 : i < l.length := by omega
      simp only [if_neg e]
      rw [List.getElem_append_left hi3]
      exact hgo _ _ (h.ins i hi3) (fun b o e => h.off i b o hi3 e)
  · intro i b o' hi hq
    have hi2 : i < l.length + 1 := by simpa using hi
    by_cases e : i = l.length
    · subst e
      simp only [if_pos] at hq
      subst hq
      exact hnew b (inVr_lt hin hp) (hoff b o' rfl)
    · have hi3 : i < l.length := by omega
      simp only [if_neg e] at hq
      have h1 := h.ins i hi3
      rw [hq] at h1
      exact hnew b (inVr_lt h1 (hpos _ (List.getElem_mem _))) (h.off i b o' hi3 hq)
theorem KeptC.inCh {w : World} {base : Nat} {v : Value} {l : List Chn} {q : Nat → Option Addr} {c : Nat → Nat} {xs : List Value} (h : KeptC w base v l q c xs) : ∃ p cap, v = .slice p l.length cap ∧ RowCh w p l := by
  have hlt := h.row.lt
  have hcell := fun j u hj => fun g cap (e : v = .slice (some ⟨g, 0, none⟩) l.length cap) => owns_cell (e ▸ h.row) j u hj
  rcases h.row.2 with ⟨hv, hn⟩ | ⟨g, cap, cur, hv, _⟩
  · exact ⟨none, 0, by rw [hv, hn], .inl (List.length_eq_zero_iff.1 hn)⟩
  · refine ⟨some ⟨g, 0, none⟩, cap, hv, .inr ⟨g, rfl, (hlt g (by rw [hv]; rfl)).2, fun i hi => ⟨hcell _ _ (h.at_ i hi).1 g cap hv, q i, c i, hcell _ _ (h.at_ i hi).2 g cap hv, h.ins i hi⟩⟩⟩

end Go.Proofs.YtncpijfbbgipaaaGreatDoor.Co

/- Marks on rows of versions and of parts: what the laws' helpers answer, and which memory they change. -/
namespace Go.Proofs.YtncpijfbbgipaaaGreatDoor.Co
open Go.RowKit Tr
set_option linter.unusedVariables false

theorem markText_at (n : Nat) (z : Int) (hz : z = (n : Int)) (h1 : 1 ≤ n) (h2 : n ≤ 17592186044416) (w : World) :
    Calls Tryz.prog 66 #[.int .i64 z] w fun e w' => e = .returned (.string (Tr.mt n)) ∧ Below w.heap.size w w' := by
  subst hz; exact Tr.markText_any n h1 h2 w
/-- Whether a mark's number makes true. -/
def boolM (n : Int) : Bool := n % 3 == 0
/-- The version that marks a place, from number n on. -/
def markVr (n : Nat) : Ver := ⟨(n : Int), boolM ((n : Int) + 1), ⟨(n : Int) + 1 + 1, (n : Int) + 1 + 1 + 1, Tr.mt (n + 4)⟩⟩
def marksVr : Nat → Nat → List Ver
  | _, 0 => []
  | q, n + 1 => markVr q :: marksVr (q + 5) n
theorem marksVr_len : ∀ (n q : Nat), (marksVr q n).length = n
  | 0, _ => rfl
  | n + 1, q => by rw [marksVr, List.length_cons, marksVr_len n]
theorem marksVr_snoc : ∀ (k q : Nat), marksVr q (k + 1) = marksVr q k ++ [markVr (q + 5 * k)]
  | 0, q => rfl
  | k + 1, q => by
    rw [marksVr, marksVr_snoc k (q + 5), marksVr, List.cons_append, show q + 5 + 5 * k = q + 5 * (k + 1) by omega]
theorem marksVr_get : ∀ (n q i : Nat) (h : i < (marksVr q n).length), (marksVr q n)[i] = markVr (q + 5 * i)
  | 0, q, i, h => by simp [marksVr] at h
  | n + 1, q, 0, h => by simp [marksVr]
  | n + 1, q, i + 1, h => by
    have := marksVr_get n (q + 5) i (by rw [marksVr_len] at *; omega)
    simp only [marksVr, List.getElem_cons_succ]
    rw [this]
    congr 1
    omega
def markMixVr (q : Nat) (l : List Ver) (k : Nat) : List Ver := marksVr q k ++ l.drop k
theorem markMixVr_len (q : Nat) (l : List Ver) (k : Nat) (h : k ≤ l.length) : (markMixVr q l k).length = l.length := by unfold markMixVr; rw [List.length_append, marksVr_len, List.length_drop]; omega
theorem markMixVr_zero (q : Nat) (l : List Ver) : markMixVr q l 0 = l := by unfold markMixVr marksVr; simp
theorem markMixVr_full (q : Nat) (l : List Ver) : markMixVr q l l.length = marksVr q l.length := by unfold markMixVr; simp
theorem markMixVr_set (q : Nat) (l : List Ver) (k : Nat) (h : k < l.length) : (markMixVr q l k).set k (markVr (q + 5 * k)) = markMixVr q l (k + 1) := by
  unfold markMixVr
  rw [List.set_append_right _ _ (by rw [marksVr_len]; omega), marksVr_len, Nat.sub_self, marksVr_snoc, List.append_assoc]
  congr 1
  rw [List.drop_eq_getElem_cons h]; rfl

set_option maxRecDepth 4000 in
set_option maxHeartbeats 2000000 in
theorem markVersionS_any (base : Nat) (v : Value) (l : List Ver) (q : Nat) (w : World) (hown : OwnVr w base v l) (h1 : 1 ≤ q) (h2 : q + 5 * l.length ≤ 17592186044416) (hl : l.length ≤ 1048576) :
    Calls Tryz.prog 65 #[v, .int .i64 q] w fun e w' => e = .returned (.int .i64 ((q + 5 * l.length : Nat) : Int)) ∧ OwnVr w' base v (marksVr q l.length) ∧ w.grownBy w' v.ownBlock := by
  rcases hown.form with ⟨rfl, rfl⟩ | ⟨g, c, rfl, hgb, hgl⟩
  · have HO0 : Hid (OwnVr _ _ _ _) := hown
    clear hown
    go_enter Tryz.func65, Tryz.ntmps65
    go_wp2_with fail
    refine wp_loop_rounds 1 ?_
    rw [rounds_succ]
    go_wp2_with fail
    go_ret
    exact ⟨rfl, HO0.out, grown_refl _ _⟩
  · have HO0 : Hid (OwnVr _ _ _ _) := hown
    clear hown
    go_enter Tryz.func65, Tryz.ntmps65
    go_wp2_with fail
    go_loopw [1, 5] (fun x i wr => ∃ (k E : Nat), k ≤ l.length ∧ i = .int .i64 k ∧ x = .int .i64 (E : Int) ∧ E = q + 5 * k ∧ wr.ownsRow base 69 5 (.slice (some ⟨g, 0, none⟩) l.length c) l.length (flatVr (markMixVr q l k)) ∧ w.grownBy wr (some g)) (fun _ i _ => l.length - (intOf i).toNat)
    case atStart => exact ⟨0, q, Nat.zero_le _, rfl, rfl, by omega, by rw [markMixVr_zero]; exact HO0.out, grown_refl _ _⟩
    case round =>
      obtain ⟨k, E, hk, rfl, rfl, hE, hown, hgr⟩ := hrel
      have HB : Hid (World.grownBy _ _ _) := hgr
      have hz := hgr.size
      clear hgr HO0
      by_cases hlt : k < l.length
      · have hlt2 : (k : Int) < (l.length : Int) := by omega
        have hm := markMixVr_len q l k hk
        have hglr : g < wr.heap.size := (hown.lt g rfl).2
        obtain ⟨z0, y0⟩ := own_there hown (k * 5) (by omega)
        obtain ⟨z1, y1⟩ := own_there hown (k * 5 + 1) (by omega)
        obtain ⟨z2, y2⟩ := own_there hown (k * 5 + 2) (by omega)
        obtain ⟨z3, y3⟩ := own_there hown (k * 5 + 3) (by omega)
        have hf := fun o => World.ownsRow.frozenAt hown o
        have f0 := hf (k * 5); have f1 := hf (k * 5 + 1); have f2 := hf (k * 5 + 2); have f3 := hf (k * 5 + 3)
        obtain ⟨B, hB⟩ : ∃ B : Bool, B = boolM ((E : Int) + 1) := ⟨_, rfl⟩
        have hB' : (((E : Int) + 1) % 3 == 0) = B := by rw [hB]; rfl
        have hT' : Int.tmod ((E : Int) + 1) 3 = ((E : Int) + 1) % 3 := Int.tmod_eq_emod_of_nonneg (by omega)
        have hst4 := (World.ownsRow.stored (World.ownsRow.stored (World.ownsRow.stored (World.ownsRow.stored hown (k * 5) (.int .i64 (E : Int))).1 (k * 5 + 1) (.bool B)).1 (k * 5 + 2) (.int .i64 ((E : Int) + 1 + 1))).1 (k * 5 + 3) (.int .i64 ((E : Int) + 1 + 1 + 1))).1
        have he : (((((flatVr (markMixVr q l k)).set (k * 5) (.int .i64 (E : Int))).set (k * 5 + 1) (.bool B)).set (k * 5 + 2) (.int .i64 ((E : Int) + 1 + 1))).set (k * 5 + 3) (.int .i64 ((E : Int) + 1 + 1 + 1))).set (k * 5 + 4) (.string (Tr.mt (E + 4))) = flatVr (markMixVr q l (k + 1)) := by
          rw [← markMixVr_set q l k hlt, hB, ← hE]; exact flatVr_set (markMixVr q l k) k (markVr E) (by omega)
        have HE : Hid _ := he
        have HS4 : Hid (World.ownsRow _ _ _ _ _ _ _) := hst4
        have HEQ : Hid (E = q + 5 * k) := hE
        have hEb : E ≤ 17592186044411 := by omega
        have hE1 : 1 ≤ E := by omega
        clear hown hst4 he hB hE hf
        go_wp2_with fail
        refine (markText_at (E + 4) _ (by omega) (by omega) (by omega) _).mono ?_
        rintro e w2 ⟨rfl, hb2⟩
        have hown2 := owns_below HS4.out hb2
        obtain ⟨z4, y4⟩ := own_there hown2 (k * 5 + 4) (by omega)
        have f4 := World.ownsRow.frozenAt hown2 (k * 5 + 4)
        have hst := (World.ownsRow.stored hown2 (k * 5 + 4) (.string (Tr.mt (E + 4)))).1
        rw [HE.out] at hst
        have HS : Hid (World.ownsRow _ _ _ _ _ _ _) := hst
        have HB2 : Hid (World.grownBy _ _ _) := grown_trans (grown_trans (grown_trans (grown_trans (grown_trans HB.out grown_set) grown_set) grown_set) grown_set) (grown_below hb2)
        have hz2 := hb2.size
        clear hst hown2 hb2 hm HS4 y0 y1 y2 y3 f0 f1 f2 f3
        go_wp2_with fail
        go_roundw
        case rel => exact ⟨k + 1, E + 5, by omega, by go_num, by go_num, by have := HEQ.out; omega, HS.out, grown_trans HB2.out grown_set⟩
        case measure => simp [intOf]; omega
      · obtain rfl : k = l.length := by omega
        rw [markMixVr_full] at hown
        have HO : Hid (World.ownsRow _ _ _ _ _ _ _) := hown
        clear hown
        subst hE
        go_wp2_with fail
        go_ret
        exact ⟨rfl, by unfold OwnVr; rw [marksVr_len]; exact HO.out, HB.out⟩

end Go.Proofs.YtncpijfbbgipaaaGreatDoor.Co

/- Marks on rows of parts and of chains: what the laws' helpers answer, and which memory they change. -/
namespace Go.Proofs.YtncpijfbbgipaaaGreatDoor.Co
open Go.RowKit Tr
set_option linter.unusedVariables false

/-- The part that marks a place, from number n on. -/
def markPt (n : Nat) : Prt := ⟨Tr.mt n, boolM ((n : Int) + 1)⟩
def marksPt : Nat → Nat → List Prt
  | _, 0 => []
  | q, n + 1 => markPt q :: marksPt (q + 2) n
theorem marksPt_len : ∀ (n q : Nat), (marksPt q n).length = n
  | 0, _ => rfl
  | n + 1, q => by rw [marksPt, List.length_cons, marksPt_len n]
theorem marksPt_snoc : ∀ (k q : Nat), marksPt q (k + 1) = marksPt q k ++ [markPt (q + 2 * k)]
  | 0, q => rfl
  | k + 1, q => by
    rw [marksPt, marksPt_snoc k (q + 2), marksPt, List.cons_append, show q + 2 + 2 * k = q + 2 * (k + 1) by omega]
theorem marksPt_get : ∀ (n q i : Nat) (h : i < (marksPt q n).length), (marksPt q n)[i] = markPt (q + 2 * i)
  | 0, q, i, h => by simp [marksPt] at h
  | n + 1, q, 0, h => by simp [marksPt]
  | n + 1, q, i + 1, h => by
    have := marksPt_get n (q + 2) i (by rw [marksPt_len] at *; omega)
    simp only [marksPt, List.getElem_cons_succ]
    rw [this]
    congr 1
    omega
def markMixPt (q : Nat) (l : List Prt) (k : Nat) : List Prt := marksPt q k ++ l.drop k
theorem markMixPt_len (q : Nat) (l : List Prt) (k : Nat) (h : k ≤ l.length) : (markMixPt q l k).length = l.length := by unfold markMixPt; rw [List.length_append, marksPt_len, List.length_drop]; omega
theorem markMixPt_zero (q : Nat) (l : List Prt) : markMixPt q l 0 = l := by unfold markMixPt marksPt; simp
theorem markMixPt_full (q : Nat) (l : List Prt) : markMixPt q l l.length = marksPt q l.length := by unfold markMixPt; simp
theorem markMixPt_set (q : Nat) (l : List Prt) (k : Nat) (h : k < l.length) : (markMixPt q l k).set k (markPt (q + 2 * k)) = markMixPt q l (k + 1) := by
  unfold markMixPt
  rw [List.set_append_right _ _ (by rw [marksPt_len]; omega), marksPt_len, Nat.sub_self, marksPt_snoc, List.append_assoc]
  congr 1
  rw [List.drop_eq_getElem_cons h]; rfl

set_option maxRecDepth 4000 in
set_option maxHeartbeats 2000000 in
theorem markPartS_any (base : Nat) (v : Value) (l : List Prt) (q : Nat) (w : World) (hown : OwnD w base v l) (h1 : 1 ≤ q) (h2 : q + 2 * l.length ≤ 17592186044416) (hl : l.length ≤ 1048576) :
    Calls Tryz.prog 67 #[v, .int .i64 q] w fun e w' => e = .returned (.int .i64 ((q + 2 * l.length : Nat) : Int)) ∧ OwnD w' base v (marksPt q l.length) ∧ w.grownBy w' v.ownBlock := by
  rcases hown.form with ⟨rfl, rfl⟩ | ⟨g, c, rfl, hgb, hgl⟩
  · have HO0 : Hid (OwnD _ _ _ _) := hown
    clear hown
    go_enter Tryz.func67, Tryz.ntmps67
    go_wp2_with fail
    refine wp_loop_rounds 1 ?_
    rw [rounds_succ]
    go_wp2_with fail
    go_ret
    exact ⟨rfl, HO0.out, grown_refl _ _⟩
  · have HO0 : Hid (OwnD _ _ _ _) := hown
    clear hown
    go_enter Tryz.func67, Tryz.ntmps67
    go_wp2_with fail
    go_loopw [1, 5] (fun x i wr => ∃ (k E : Nat), k ≤ l.length ∧ i = .int .i64 k ∧ x = .int .i64 (E : Int) ∧ E = q + 2 * k ∧ wr.ownsRow base 112 2 (.slice (some ⟨g, 0, none⟩) l.length c) l.length (flatD (markMixPt q l k)) ∧ w.grownBy wr (some g)) (fun _ i _ => l.length - (intOf i).toNat)
    case atStart => exact ⟨0, q, Nat.zero_le _, rfl, rfl, by omega, by rw [markMixPt_zero]; exact HO0.out, grown_refl _ _⟩
    case round =>
      obtain ⟨k, E, hk, rfl, rfl, hE, hown, hgr⟩ := hrel
      have HB : Hid (World.grownBy _ _ _) := hgr
      have hz := hgr.size
      clear hgr HO0
      by_cases hlt : k < l.length
      · have hlt2 : (k : Int) < (l.length : Int) := by omega
        have hm := markMixPt_len q l k hk
        have hglr : g < wr.heap.size := (hown.lt g rfl).2
        have HO : Hid (World.ownsRow _ _ _ _ _ _ _) := hown
        obtain ⟨B, hB⟩ : ∃ B : Bool, B = boolM ((E : Int) + 1) := ⟨_, rfl⟩
        have hB' : (((E : Int) + 1) % 3 == 0) = B := by rw [hB]; rfl
        have hT' : Int.tmod ((E : Int) + 1) 3 = ((E : Int) + 1) % 3 := Int.tmod_eq_emod_of_nonneg (by omega)
        have he : ((flatD (markMixPt q l k)).set (k * 2) (.string (Tr.mt E))).set (k * 2 + 1) (.bool B) = flatD (markMixPt q l (k + 1)) := by
          rw [← markMixPt_set q l k hlt, hB, ← hE]; exact flatD_set (markMixPt q l k) k (markPt E) (by omega)
        have HE : Hid _ := he
        have HEQ : Hid (E = q + 2 * k) := hE
        have hEb : E ≤ 17592186044414 := by omega
        have hE1 : 1 ≤ E := by omega
        clear hown he hB hE
        go_wp2_with fail
        refine (markText_at E _ (by omega) (by omega) (by omega) _).mono ?_
        rintro e w2 ⟨rfl, hb2⟩
        have hown2 := owns_below HO.out hb2
        obtain ⟨z0, y0⟩ := own_there hown2 (k * 2) (by omega)
        obtain ⟨z1, y1⟩ := own_there hown2 (k * 2 + 1) (by omega)
        have f0 := World.ownsRow.frozenAt hown2 (k * 2)
        have f1 := World.ownsRow.frozenAt hown2 (k * 2 + 1)
        have hst := (World.ownsRow.stored (World.ownsRow.stored hown2 (k * 2) (.string (Tr.mt E))).1 (k * 2 + 1) (.bool B)).1
        rw [HE.out] at hst
        have HS : Hid (World.ownsRow _ _ _ _ _ _ _) := hst
        have HB2 : Hid (World.grownBy _ _ _) := grown_trans HB.out (grown_below hb2)
        have hz2 := hb2.size
        clear hst hown2 hb2 hm HO
        go_wp2_with fail
        go_roundw
        case rel => exact ⟨k + 1, E + 2, by omega, by go_num, by go_num, by have := HEQ.out; omega, HS.out, grown_trans (grown_trans HB2.out grown_set) grown_set⟩
        case measure => simp [intOf]; omega
      · obtain rfl : k = l.length := by omega
        rw [markMixPt_full] at hown
        have HO : Hid (World.ownsRow _ _ _ _ _ _ _) := hown
        clear hown
        subst hE
        go_wp2_with fail
        go_ret
        exact ⟨rfl, by unfold OwnD; rw [marksPt_len]; exact HO.out, HB.out⟩

/-- The chains that marks leave, from number q on, and the number behind them. -/
def marksCh : Nat → List Chn → List Chn
  | _, [] => []
  | q, p :: t => ⟨q, marksVr (q + 1) p.vs.length⟩ :: marksCh (q + 1 + 5 * p.vs.length) t
def endCh : Nat → List Chn → Nat
  | q, [] => q
  | q, p :: t => endCh (q + 1 + 5 * p.vs.length) t
theorem marksCh_cons (q : Nat) (p : Chn) (t : List Chn) : marksCh q (p :: t) = ⟨q, marksVr (q + 1) p.vs.length⟩ :: marksCh (q + 1 + 5 * p.vs.length) t := rfl
theorem endCh_cons (q : Nat) (p : Chn) (t : List Chn) : endCh q (p :: t) = endCh (q + 1 + 5 * p.vs.length) t := rfl
theorem marksCh_len : ∀ (q : Nat) (f : List Chn), (marksCh q f).length = f.length
  | _, [] => rfl
  | q, p :: t => by unfold marksCh; simp [marksCh_len _ t]
theorem marksCh_app : ∀ (q : Nat) (a b : List Chn), marksCh q (a ++ b) = marksCh q a ++ marksCh (endCh q a) b
  | _, [], b => rfl
  | q, p :: t, b => by
    rw [List.cons_append, marksCh_cons, marksCh_cons, endCh_cons, marksCh_app _ t b]; rfl
theorem endCh_app : ∀ (q : Nat) (a b : List Chn), endCh q (a ++ b) = endCh (endCh q a) b
  | _, [], b => rfl
  | q, p :: t, b => by
    rw [List.cons_append, endCh_cons, endCh_cons]
    exact endCh_app _ t b
theorem endCh_ge : ∀ (q : Nat) (f : List Chn), q ≤ endCh q f
  | q, [] => Nat.le_refl _
  | q, p :: t => by
    have := endCh_ge (q + 1 + 5 * p.vs.length) t
    unfold endCh; omega
theorem endCh_le : ∀ (q : Nat) (f : List Chn), (∀ p ∈ f, p.vs.length ≤ 1048576) → endCh q f ≤ q + f.length * 5242881
  | q, [], _ => by simp [endCh]
  | q, p :: t, h => by
    have h1 := endCh_le (q + 1 + 5 * p.vs.length) t (fun r hr => h r (List.mem_cons_of_mem _ hr))
    have h2 := h p (List.mem_cons_self ..)
    unfold endCh
    rw [List.length_cons, Nat.add_mul]
    omega
/-- The first k chains marked. -/
def mixMCh (q : Nat) (f : List Chn) (k : Nat) : List Chn := marksCh q (f.take k) ++ f.drop k
theorem mixMCh_len (q : Nat) (f : List Chn) (k : Nat) (h : k ≤ f.length) : (mixMCh q f k).length = f.length := by unfold mixMCh; rw [List.length_append, marksCh_len, List.length_take, List.length_drop]; omega
theorem mixMCh_zero (q : Nat) (f : List Chn) : mixMCh q f 0 = f := by unfold mixMCh marksCh; simp
theorem mixMCh_full (q : Nat) (f : List Chn) (k : Nat) (h : k = f.length) : mixMCh q f k = marksCh q f := by subst h; unfold mixMCh; simp
theorem mixMCh_get (q : Nat) (f : List Chn) (k : Nat) (h : k < f.length) (h2 : k < (mixMCh q f k).length) : (mixMCh q f k)[k] = f[k] := by
  have hl : (marksCh q (f.take k)).length = k := by rw [marksCh_len, List.length_take]; omega
  have e : (mixMCh q f k)[k]? = f[k]? := by
    unfold mixMCh
    rw [List.getElem?_append_right (by omega), hl, Nat.sub_self, List.getElem?_drop]; rfl
  rw [List.getElem?_eq_getElem h2, List.getElem?_eq_getElem h] at e
  exact Option.some.inj e
theorem mixMCh_set (q : Nat) (f : List Chn) (k : Nat) (h : k < f.length) : (mixMCh q f k).set k ⟨(endCh q (f.take k) : Nat), marksVr (endCh q (f.take k) + 1) f[k].vs.length⟩ = mixMCh q f (k + 1) := by
  unfold mixMCh
  have hl : (marksCh q (f.take k)).length = k := by rw [marksCh_len, List.length_take]; omega
  rw [List.set_append_right _ _ (by omega), hl, Nat.sub_self, List.take_succ_eq_append_getElem h, marksCh_app, List.append_assoc]
  congr 1
  rw [List.drop_eq_getElem_cons h]; rfl
theorem endCh_succ (q : Nat) (f : List Chn) (k : Nat) (h : k < f.length) : endCh q (f.take (k + 1)) = endCh q (f.take k) + 1 + 5 * f[k].vs.length := by
  rw [List.take_succ_eq_append_getElem h, endCh_app]; rfl

theorem PartCh.mark {w w3 : World} {lo g c n : Nat} {f : List Chn} {vs : Nat → Value} {xs : List Value} (h : PartCh w lo (.slice (some ⟨g, 0, none⟩) n c) n f n vs xs) (hn : f.length = n) {k : Nat} (hk : k < n) {num : Int} {es : List Ver}
    (ho : OwnVr w3 lo (vs k) es) (hg : (w.setCell ⟨g, k * 2, none⟩ (.int .i64 num)).grownBy w3 (vs k).ownBlock) : PartCh w3 lo (.slice (some ⟨g, 0, none⟩) n c) n (f.set k ⟨num, es⟩) n vs (xs.set (k * 2) (.int .i64 num)) := by
  have hl : xs.length = n * 2 := h.row.1
  have hsw : ∀ {i j : Nat}, ((vs i).ownBlock = none ∨ (vs i).ownBlock ≠ (vs j).ownBlock) → ((vs j).ownBlock = none ∨ (vs j).ownBlock ≠ (vs i).ownBlock) := by
    intro i j hh
    rcases hh with hh | hh
    · cases hj : (vs j).ownBlock with
      | none => exact .inl rfl
      | some b => exact .inr (by rw [hh]; simp)
    · exact .inr (fun e => hh e.symm)
  refine ⟨?_, ?_, ?_, ?_, ?_⟩
  · refine ((World.ownsRow.stored h.row (k * 2) (.int .i64 num)).1).kept hg (.inr ?_)
    rcases h.aside k (by omega) hk with hh | hh
    · rw [hh]; simp [Value.ownBlock]
    · exact fun e => hh e.symm
  · intro i hi0 hik
    have hi : i < f.length := by simpa using hi0
    by_cases e : i = k
    · subst e
      rw [List.getElem_set_self, List.getElem?_set_self (by omega), List.getElem?_set_ne (by omega)]
      exact ⟨rfl, (h.at_ i hi hik).2⟩
    · rw [List.getElem_set_ne (fun e' => e e'.symm), List.getElem?_set_ne (by omega), List.getElem?_set_ne (by omega)]
      exact h.at_ i hi hik
  · intro i hi0 hik
    have hi : i < f.length := by simpa using hi0
    by_cases e : i = k
    · subst e; rw [List.getElem_set_self]; exact ho
    · rw [List.getElem_set_ne (fun e' => e e'.symm)]
      exact ((World.ownsRow.kept (h.ents i hi hik) grown_set (h.aside i hi hik))).kept hg (h.apart i k hi (by omega) hik hk e)
  · intro i j hi hj hik hjk hne
    rw [List.length_set] at hi hj
    exact h.apart i j hi hj hik hjk hne
  · intro i hi hik
    rw [List.length_set] at hi
    exact h.aside i hi hik

set_option maxRecDepth 4000 in
set_option maxHeartbeats 2000000 in
theorem markChainS_any (lo hi : Nat) (v : Value) (f : List Chn) (q : Nat) (w : World) (hown : OwnChH w lo hi v f) (h1 : 1 ≤ q) (h2 : q ≤ 1000) (hl : f.length ≤ 1048576) (hs : ∀ p ∈ f, p.vs.length ≤ 1048576) :
    Calls Tryz.prog 34 #[v, .int .i64 q] w fun e w' => e = .returned (.int .i64 ((endCh q f : Nat) : Int)) ∧ OwnChH w' lo hi v (marksCh q f) ∧ Chg lo hi w w' := by
  have HH := hown
  obtain ⟨vs, xs0, hP, hv, hvs⟩ := HH
  have hrow := hP.row
  obtain ⟨hr1, hr2⟩ := hrow
  rcases hr2 with ⟨rfl, h0⟩ | ⟨g, c, cur, rfl, hg, _⟩
  · have hf : f = [] := List.length_eq_zero_iff.1 h0
    subst hf
    have HO0 : Hid (OwnChH _ _ _ _ _) := hown
    clear hown hP hv hvs hr1
    go_enter Tryz.func34, Tryz.ntmps34
    go_wp2_with fail
    refine wp_loop_rounds 1 ?_
    rw [rounds_succ]
    go_wp2_with fail
    go_ret
    exact ⟨rfl, HO0.out, Chg.refl _ _ _⟩
  · have HP0 : Hid (PartCh _ _ _ _ _ _ _ _) := hP
    have HV : Hid (∀ b, (Value.slice (some ⟨g, 0, none⟩) f.length c).ownBlock = some b → b < hi) := hv
    have HVS : Hid (∀ i, i < f.length → ∀ b, (vs i).ownBlock = some b → b < hi) := hvs
    have HS : Hid _ := hs
    clear hown hP hv hvs hs hr1
    go_enter Tryz.func34, Tryz.ntmps34
    go_wp2_with fail
    go_loopw [1, 5] (fun x i wr => ∃ (k : Nat) (xs : List Value), k ≤ f.length ∧ i = .int .i64 k ∧ x = .int .i64 ((endCh q (f.take k) : Nat) : Int) ∧ PartCh wr lo (.slice (some ⟨g, 0, none⟩) f.length c) f.length (mixMCh q f k) f.length vs xs ∧ Chg lo hi w wr) (fun _ i _ => f.length - (intOf i).toNat)
    case atStart => exact ⟨0, xs0, Nat.zero_le _, rfl, rfl, by rw [mixMCh_zero]; exact HP0.out, Chg.refl _ _ _⟩
    case round =>
      obtain ⟨k, xs, hk, rfl, rfl, hP, hC⟩ := hrel
      have HC : Hid (Chg _ _ _ _) := hC
      have hz := hC.size
      have hml := mixMCh_len q f k hk
      have hen1 := endCh_ge q (f.take k)
      have hen2 := endCh_le q (f.take k) (fun p hp => HS.out p (List.mem_of_mem_take hp))
      have hen3 : (f.take k).length ≤ 1048576 := by rw [List.length_take]; omega
      have hen4 : (f.take k).length * 5242881 ≤ 1048576 * 5242881 := Nat.mul_le_mul_right _ hen3
      clear hC HP0
      by_cases hlt : k < f.length
      · have hlt2 : (k : Int) < (f.length : Int) := by omega
        have hsk := HS.out f[k] (List.getElem_mem _)
        have hglr : g < wr.heap.size := (hP.row.lt g rfl).2
        obtain ⟨z0, y0⟩ := own_there hP.row (k * 2) (by omega)
        have f0 := World.ownsRow.frozenAt hP.row (k * 2)
        have hat := (hP.at_ k (by omega) hlt).2
        have y1 := owns_cell hP.row _ _ hat
        have hen := hP.ents k (by omega) hlt
        rw [mixMCh_get q f k hlt] at hen
        have hsu := endCh_succ q f k hlt
        have hmset := mixMCh_set q f k hlt
        obtain ⟨E, hE⟩ : ∃ E, E = endCh q (f.take k) := ⟨_, rfl⟩
        rw [← hE] at hen1 hen2 hsu hmset ⊢
        have hen' : OwnVr (wr.setCell ⟨g, k * 2, none⟩ (.int .i64 E)) lo (vs k) f[k].vs := World.ownsRow.kept hen grown_set (hP.aside k (by omega) hlt)
        have HM0 := markVersionS_any lo (vs k) f[k].vs (E + 1) _ hen' (by omega) (by omega) hsk
        rw [show ((E + 1 : Nat) : Int) = (E : Int) + 1 by omega] at HM0
        have HM : Hid (Calls _ _ _ _ _) := HM0
        have HP : Hid (PartCh _ _ _ _ _ _ _ _) := hP
        have HSU : Hid _ := hsu
        have HMS : Hid _ := hmset
        have hgw : lo ≤ g := (hP.row.lt g rfl).1
        have hEb : E ≤ 6000000000000 := by omega
        clear hP hat hen hen' hsu hmset hE hen2 hen3 hen4 HM0
        go_wp2_with fail
        refine HM.out.mono ?_
        rintro e w3 ⟨rfl, hO3, hg3⟩
        have hP3 := HP.out.mark hml hlt hO3 hg3
        rw [HMS.out] at hP3
        have HP3 : Hid (PartCh _ _ _ _ _ _ _ _) := hP3
        have HC3 : Hid (Chg _ _ _ _) := (HC.out.trans (Chg.of_grown grown_set (fun b hb => by injection hb with hb; subst hb; exact ⟨hgw, HV.out _ rfl⟩))).trans (Chg.of_grown hg3 (fun b hb => ⟨(World.ownsRow.lt hO3 b hb).1, HVS.out k hlt b hb⟩))
        have hz3 := hg3.size
        clear hP3 hO3 hg3 HM HP HC
        go_wp2_with fail
        go_roundw
        case rel => exact ⟨k + 1, _, by omega, by go_num, by rw [HSU.out]; go_num, HP3.out, HC3.out⟩
        case measure => simp [intOf]; omega
      · obtain rfl : k = f.length := by omega
        rw [mixMCh_full q f _ rfl] at hP
        rw [List.take_length] at *
        have HP : Hid (PartCh _ _ _ _ _ _ _ _) := hP
        clear hP
        go_wp2_with fail
        go_ret
        exact ⟨rfl, ⟨vs, xs, by rw [marksCh_len]; exact HP.out, HV.out, by rw [marksCh_len]; exact HVS.out⟩, HC.out⟩


end Go.Proofs.YtncpijfbbgipaaaGreatDoor.Co

/- Marks on rows of definitions, and on collections: what the laws' helpers answer, and which memory they change. -/
namespace Go.Proofs.YtncpijfbbgipaaaGreatDoor.Co
open Go.RowKit Tr
set_option linter.unusedVariables false

/-- The definitions that marks leave, from number q on, and the number behind them. -/
def marksDf : Nat → List Dfn → List Dfn
  | _, [] => []
  | q, p :: t => ⟨Tr.mt q, marksPt (q + 1) p.ps.length⟩ :: marksDf (q + 1 + 2 * p.ps.length) t
def endDf : Nat → List Dfn → Nat
  | q, [] => q
  | q, p :: t => endDf (q + 1 + 2 * p.ps.length) t
theorem marksDf_cons (q : Nat) (p : Dfn) (t : List Dfn) : marksDf q (p :: t) = ⟨Tr.mt q, marksPt (q + 1) p.ps.length⟩ :: marksDf (q + 1 + 2 * p.ps.length) t := rfl
theorem endDf_cons (q : Nat) (p : Dfn) (t : List Dfn) : endDf q (p :: t) = endDf (q + 1 + 2 * p.ps.length) t := rfl
theorem marksDf_len : ∀ (q : Nat) (f : List Dfn), (marksDf q f).length = f.length
  | _, [] => rfl
  | q, p :: t => by unfold marksDf; simp [marksDf_len _ t]
theorem marksDf_app : ∀ (q : Nat) (a b : List Dfn), marksDf q (a ++ b) = marksDf q a ++ marksDf (endDf q a) b
  | _, [], b => rfl
  | q, p :: t, b => by
    rw [List.cons_append, marksDf_cons, marksDf_cons, endDf_cons, marksDf_app _ t b]; rfl
theorem endDf_app : ∀ (q : Nat) (a b : List Dfn), endDf q (a ++ b) = endDf (endDf q a) b
  | _, [], b => rfl
  | q, p :: t, b => by
    rw [List.cons_append, endDf_cons, endDf_cons]
    exact endDf_app _ t b
theorem endDf_ge : ∀ (q : Nat) (f : List Dfn), q ≤ endDf q f
  | q, [] => Nat.le_refl _
  | q, p :: t => by
    have := endDf_ge (q + 1 + 2 * p.ps.length) t
    unfold endDf; omega
theorem endDf_le : ∀ (q : Nat) (f : List Dfn), (∀ p ∈ f, p.ps.length ≤ 1048576) → endDf q f ≤ q + f.length * 2097153
  | q, [], _ => by simp [endDf]
  | q, p :: t, h => by
    have h1 := endDf_le (q + 1 + 2 * p.ps.length) t (fun r hr => h r (List.mem_cons_of_mem _ hr))
    have h2 := h p (List.mem_cons_self ..)
    unfold endDf
    rw [List.length_cons, Nat.add_mul]
    omega
/-- The first k definitions marked. -/
def mixMDf (q : Nat) (f : List Dfn) (k : Nat) : List Dfn := marksDf q (f.take k) ++ f.drop k
theorem mixMDf_len (q : Nat) (f : List Dfn) (k : Nat) (h : k ≤ f.length) : (mixMDf q f k).length = f.length := by unfold mixMDf; rw [List.length_append, marksDf_len, List.length_take, List.length_drop]; omega
theorem mixMDf_zero (q : Nat) (f : List Dfn) : mixMDf q f 0 = f := by unfold mixMDf marksDf; simp
theorem mixMDf_full (q : Nat) (f : List Dfn) (k : Nat) (h : k = f.length) : mixMDf q f k = marksDf q f := by subst h; unfold mixMDf; simp
theorem mixMDf_get (q : Nat) (f : List Dfn) (k : Nat) (h : k < f.length) (h2 : k < (mixMDf q f k).length) : (mixMDf q f k)[k] = f[k] := by
  have hl : (marksDf q (f.take k)).length = k := by rw [marksDf_len, List.length_take]; omega
  have e : (mixMDf q f k)[k]? = f[k]? := by
    unfold mixMDf
    rw [List.getElem?_append_right (by omega), hl, Nat.sub_self, List.getElem?_drop]; rfl
  rw [List.getElem?_eq_getElem h2, List.getElem?_eq_getElem h] at e
  exact Option.some.inj e
theorem mixMDf_set (q : Nat) (f : List Dfn) (k : Nat) (h : k < f.length) : (mixMDf q f k).set k ⟨Tr.mt (endDf q (f.take k)), marksPt (endDf q (f.take k) + 1) f[k].ps.length⟩ = mixMDf q f (k + 1) := by
  unfold mixMDf
  have hl : (marksDf q (f.take k)).length = k := by rw [marksDf_len, List.length_take]; omega
  rw [List.set_append_right _ _ (by omega), hl, Nat.sub_self, List.take_succ_eq_append_getElem h, marksDf_app, List.append_assoc]
  congr 1
  rw [List.drop_eq_getElem_cons h]; rfl
theorem endDf_succ (q : Nat) (f : List Dfn) (k : Nat) (h : k < f.length) : endDf q (f.take (k + 1)) = endDf q (f.take k) + 1 + 2 * f[k].ps.length := by
  rw [List.take_succ_eq_append_getElem h, endDf_app]; rfl

theorem PartDf.mark {w w3 : World} {lo g c n : Nat} {f : List Dfn} {vs : Nat → Value} {xs : List Value} (h : PartDf w lo (.slice (some ⟨g, 0, none⟩) n c) n f n vs xs) (hn : f.length = n) {k : Nat} (hk : k < n) {num : ByteArray} {es : List Prt}
    (ho : OwnD w3 lo (vs k) es) (hg : (w.setCell ⟨g, k * 2, none⟩ (.string num)).grownBy w3 (vs k).ownBlock) : PartDf w3 lo (.slice (some ⟨g, 0, none⟩) n c) n (f.set k ⟨num, es⟩) n vs (xs.set (k * 2) (.string num)) := by
  have hl : xs.length = n * 2 := h.row.1
  have hsw : ∀ {i j : Nat}, ((vs i).ownBlock = none ∨ (vs i).ownBlock ≠ (vs j).ownBlock) → ((vs j).ownBlock = none ∨ (vs j).ownBlock ≠ (vs i).ownBlock) := by
    intro i j hh
    rcases hh with hh | hh
    · cases hj : (vs j).ownBlock with
      | none => exact .inl rfl
      | some b => exact .inr (by rw [hh]; simp)
    · exact .inr (fun e => hh e.symm)
  refine ⟨?_, ?_, ?_, ?_, ?_⟩
  · refine ((World.ownsRow.stored h.row (k * 2) (.string num)).1).kept hg (.inr ?_)
    rcases h.aside k (by omega) hk with hh | hh
    · rw [hh]; simp [Value.ownBlock]
    · exact fun e => hh e.symm
  · intro i hi0 hik
    have hi : i < f.length := by simpa using hi0
    by_cases e : i = k
    · subst e
      rw [List.getElem_set_self, List.getElem?_set_self (by omega), List.getElem?_set_ne (by omega)]
      exact ⟨rfl, (h.at_ i hi hik).2⟩
    · rw [List.getElem_set_ne (fun e' => e e'.symm), List.getElem?_set_ne (by omega), List.getElem?_set_ne (by omega)]
      exact h.at_ i hi hik
  · intro i hi0 hik
    have hi : i < f.length := by simpa using hi0
    by_cases e : i = k
    · subst e; rw [List.getElem_set_self]; exact ho
    · rw [List.getElem_set_ne (fun e' => e e'.symm)]
      exact ((World.ownsRow.kept (h.ents i hi hik) grown_set (h.aside i hi hik))).kept hg (h.apart i k hi (by omega) hik hk e)
  · intro i j hi hj hik hjk hne
    rw [List.length_set] at hi hj
    exact h.apart i j hi hj hik hjk hne
  · intro i hi hik
    rw [List.length_set] at hi
    exact h.aside i hi hik

set_option maxRecDepth 4000 in
set_option maxHeartbeats 2000000 in
theorem markDefS_any (lo hi : Nat) (v : Value) (f : List Dfn) (q : Nat) (w : World) (hown : OwnDfH w lo hi v f) (h1 : 1 ≤ q) (h2 : q ≤ 6000000000000) (hl : f.length ≤ 1048576) (hs : ∀ p ∈ f, p.ps.length ≤ 1048576) :
    Calls Tryz.prog 35 #[v, .int .i64 q] w fun e w' => e = .returned (.int .i64 ((endDf q f : Nat) : Int)) ∧ OwnDfH w' lo hi v (marksDf q f) ∧ Chg lo hi w w' := by
  have HH := hown
  obtain ⟨vs, xs0, hP, hv, hvs⟩ := HH
  have hrow := hP.row
  obtain ⟨hr1, hr2⟩ := hrow
  rcases hr2 with ⟨rfl, h0⟩ | ⟨g, c, cur, rfl, hg, _⟩
  · have hf : f = [] := List.length_eq_zero_iff.1 h0
    subst hf
    have HO0 : Hid (OwnDfH _ _ _ _ _) := hown
    clear hown hP hv hvs hr1
    go_enter Tryz.func35, Tryz.ntmps35
    go_wp2_with fail
    refine wp_loop_rounds 1 ?_
    rw [rounds_succ]
    go_wp2_with fail
    go_ret
    exact ⟨rfl, HO0.out, Chg.refl _ _ _⟩
  · have HP0 : Hid (PartDf _ _ _ _ _ _ _ _) := hP
    have HV : Hid (∀ b, (Value.slice (some ⟨g, 0, none⟩) f.length c).ownBlock = some b → b < hi) := hv
    have HVS : Hid (∀ i, i < f.length → ∀ b, (vs i).ownBlock = some b → b < hi) := hvs
    have HS : Hid _ := hs
    clear hown hP hv hvs hs hr1
    go_enter Tryz.func35, Tryz.ntmps35
    go_wp2_with fail
    go_loopw [1, 5] (fun x i wr => ∃ (k : Nat) (xs : List Value), k ≤ f.length ∧ i = .int .i64 k ∧ x = .int .i64 ((endDf q (f.take k) : Nat) : Int) ∧ PartDf wr lo (.slice (some ⟨g, 0, none⟩) f.length c) f.length (mixMDf q f k) f.length vs xs ∧ Chg lo hi w wr) (fun _ i _ => f.length - (intOf i).toNat)
    case atStart => exact ⟨0, xs0, Nat.zero_le _, rfl, rfl, by rw [mixMDf_zero]; exact HP0.out, Chg.refl _ _ _⟩
    case round =>
      obtain ⟨k, xs, hk, rfl, rfl, hP, hC⟩ := hrel
      have HC : Hid (Chg _ _ _ _) := hC
      have hz := hC.size
      have hml := mixMDf_len q f k hk
      have hen1 := endDf_ge q (f.take k)
      have hen2 := endDf_le q (f.take k) (fun p hp => HS.out p (List.mem_of_mem_take hp))
      have hen3 : (f.take k).length ≤ 1048576 := by rw [List.length_take]; omega
      have hen4 : (f.take k).length * 2097153 ≤ 1048576 * 2097153 := Nat.mul_le_mul_right _ hen3
      clear hC HP0
      by_cases hlt : k < f.length
      · have hlt2 : (k : Int) < (f.length : Int) := by omega
        have hsk := HS.out f[k] (List.getElem_mem _)
        have hglr : g < wr.heap.size := (hP.row.lt g rfl).2
        have hat := (hP.at_ k (by omega) hlt).2
        have y1 := owns_cell hP.row _ _ hat
        have hen := hP.ents k (by omega) hlt
        rw [mixMDf_get q f k hlt] at hen
        have hsu := endDf_succ q f k hlt
        have hmset := mixMDf_set q f k hlt
        obtain ⟨E, hE⟩ : ∃ E, E = endDf q (f.take k) := ⟨_, rfl⟩
        rw [← hE] at hen1 hen2 hsu hmset ⊢
        have HEN : Hid (OwnD _ _ _ _) := hen
        have HP0 : Hid (PartDf _ _ _ _ _ _ _ _) := hP
        have HSU : Hid _ := hsu
        have HMS : Hid _ := hmset
        have hgw : lo ≤ g := (hP.row.lt g rfl).1
        have hEb : E ≤ 9000000000000 := by omega
        clear hP hat hen hsu hmset hE hen2 hen3 hen4 y1
        go_wp2_with fail
        refine (markText_at E _ (by omega) (by omega) (by omega) _).mono ?_
        rintro e w2 ⟨rfl, hb2⟩
        have hP := HP0.out.next hb2
        have hen2 := owns_below HEN.out hb2
        obtain ⟨z0, y0⟩ := own_there hP.row (k * 2) (by omega)
        have f0 := World.ownsRow.frozenAt hP.row (k * 2)
        have y1 := owns_cell hP.row _ _ (hP.at_ k (by omega) hlt).2
        have hglr2 : g < w2.heap.size := (hP.row.lt g rfl).2
        have hen' : OwnD (w2.setCell ⟨g, k * 2, none⟩ (.string (Tr.mt E))) lo (vs k) f[k].ps := World.ownsRow.kept hen2 grown_set (hP.aside k (by omega) hlt)
        have HM0 := markPartS_any lo (vs k) f[k].ps (E + 1) _ hen' (by omega) (by omega) hsk
        rw [show ((E + 1 : Nat) : Int) = (E : Int) + 1 by omega] at HM0
        have HM : Hid (Calls _ _ _ _ _) := HM0
        have HP : Hid (PartDf _ _ _ _ _ _ _ _) := hP
        have HC2 : Hid (Chg _ _ _ _) := HC.out.trans (Chg.of_below hb2)
        have hz2 := hb2.size
        clear hP hen2 hen' HM0 HP0 HEN hb2 HC
        go_wp2_with fail
        refine HM.out.mono ?_
        rintro e w3 ⟨rfl, hO3, hg3⟩
        have hP3 := HP.out.mark hml hlt hO3 hg3
        rw [HMS.out] at hP3
        have HP3 : Hid (PartDf _ _ _ _ _ _ _ _) := hP3
        have HC3 : Hid (Chg _ _ _ _) := (HC2.out.trans (Chg.of_grown grown_set (fun b hb => by injection hb with hb; subst hb; exact ⟨hgw, HV.out _ rfl⟩))).trans (Chg.of_grown hg3 (fun b hb => ⟨(World.ownsRow.lt hO3 b hb).1, HVS.out k hlt b hb⟩))
        have hz3 := hg3.size
        clear hP3 hO3 hg3 HM HP HC2
        go_wp2_with fail
        go_roundw
        case rel => exact ⟨k + 1, _, by omega, by go_num, by rw [HSU.out]; go_num, HP3.out, HC3.out⟩
        case measure => simp [intOf]; omega
      · obtain rfl : k = f.length := by omega
        rw [mixMDf_full q f _ rfl] at hP
        rw [List.take_length] at *
        have HP : Hid (PartDf _ _ _ _ _ _ _ _) := hP
        clear hP
        go_wp2_with fail
        go_ret
        exact ⟨rfl, ⟨vs, xs, by rw [marksDf_len]; exact HP.out, HV.out, by rw [marksDf_len]; exact HVS.out⟩, HC.out⟩


end Go.Proofs.YtncpijfbbgipaaaGreatDoor.Co

/- The documents that are seen at a time: what the program and the specification answer. -/
namespace Go.Proofs.YtncpijfbbgipaaaGreatDoor.Co
open Go.RowKit Tr
set_option linter.unusedVariables false

/-- The documents of those chains whose version is not gone. -/
def seenG (V : Chn → Ver) (l : List Chn) : List Val := l.flatMap fun x => if (V x).gone then [] else [(V x).doc]
theorem seenG_gone (V : Chn → Ver) (l : List Chn) (k : Nat) (h : k < l.length) (hg : (V l[k]).gone = true) : seenG V (l.take (k + 1)) = seenG V (l.take k) := by
  unfold seenG; rw [List.take_succ_eq_append_getElem h, List.flatMap_append]; simp [hg]
theorem seenG_there (V : Chn → Ver) (l : List Chn) (k : Nat) (h : k < l.length) (hg : (V l[k]).gone = false) : seenG V (l.take (k + 1)) = seenG V (l.take k) ++ [(V l[k]).doc] := by
  unfold seenG; rw [List.take_succ_eq_append_getElem h, List.flatMap_append]; simp [hg]
theorem seenG_len (V : Chn → Ver) : ∀ l : List Chn, (seenG V l).length ≤ l.length
  | [] => by simp [seenG]
  | x :: r => by
    have := seenG_len V r
    unfold seenG at *
    rw [List.flatMap_cons, List.length_append, List.length_cons]
    split <;> simp only [List.length_nil, List.length_cons] <;> omega
theorem seenG_congr (V U : Chn → Ver) : ∀ l : List Chn, (∀ x ∈ l, V x = U x) → seenG V l = seenG U l
  | [], _ => rfl
  | x :: r, h => by
    unfold seenG
    rw [List.flatMap_cons, List.flatMap_cons, h x (by simp)]
    congr 1
    exact seenG_congr V U r (fun y hy => h y (by simp [hy]))
/-- The answer of SeenAt: the documents, and a code. -/
def seenR (c : Col) (snap : Int) : List Val × Int := if collB c = true then (seenG (fun x => (trP snap x.vs).1) c.chs, 0) else ([], 1)
theorem seenR_bad (c : Col) (snap : Int) (h : collB c = false) : seenR c snap = ([], 1) := by unfold seenR; rw [h]; rfl
theorem seenR_ok (c : Col) (snap : Int) (h : collB c = true) : seenR c snap = (seenG (fun x => (trP snap x.vs).1) c.chs, 0) := by unfold seenR; rw [if_pos h]
structure SeenA (L : List Val × Int) (w : World) (e : Ending) (w' : World) : Prop where
  out : ∃ v, e = .returned (.tuple #[v, .int .i64 L.2]) ∧ w'.ownsRow w.heap.size 39 3 v L.1.length (flat L.1)
  bel : Below w.heap.size w w'
theorem trP_sz {c : Col} (h : SzCol c) {x : Chn} (hx : x ∈ c.chs) (snap : Int) : (trP snap x.vs).1.doc.t.size ≤ 1048576 := by
  rcases (trk_mem snap x.vs zG).1 with e | e
  · show (trk snap zG x.vs).1.doc.t.size ≤ _
    rw [e]; show em.size ≤ _; simp [ByteArray.size]
  · exact szVr_of h hx e
theorem boxed_grown {w W W' : World} {a b c : Value} {row : Option Nat} (h : Boxed w W a b c) (hg : W.grownBy W' row) (hr : ∀ j, row = some j → w.heap.size < j) : Boxed w W' a b c :=
  have hb := hg.block w.heap.size h.lt (fun e => by have := hr _ e.symm; omega)
  ⟨Below.grown h.bel hg h.bel.size (fun j hj => Nat.le_of_lt (hr j hj)), Nat.lt_of_lt_of_le h.lt hg.size, (World.cell?_of_block hb).trans h.c0, (World.cell?_of_block hb).trans h.c1, (World.cell?_of_block hb).trans h.c2⟩
/-- A track in its block. -/
structure V6 (U : World) (b : Nat) (v : Ver) (s : Value) : Prop where
  lt : b < U.heap.size
  cb : U.heap[b]? = some (.cells #[.int .i64 v.tm, .bool v.gone, .int .i64 v.doc.k, .int .i64 v.doc.n, .string v.doc.t, s] 71)
theorem V6.new (U : World) (v : Ver) (s : Value) : V6 (U.alloc (.cells #[.int .i64 v.tm, .bool v.gone, .int .i64 v.doc.k, .int .i64 v.doc.n, .string v.doc.t, s] 71)) U.heap.size v s := ⟨by simp, heap_alloc_new _ _⟩

end Go.Proofs.YtncpijfbbgipaaaGreatDoor.Co

/- The program's Vacuum: what it answers. -/
namespace Go.Proofs.YtncpijfbbgipaaaGreatDoor.Co
open Go.RowKit Tr
set_option linter.unusedVariables false

def vacR (c : Col) (t : Int) : Option Col := if collB c = true then some ⟨c.name, vacB t c.chs, c.dfs⟩ else none
/-- What a collection of one's own, or none, answers. -/
structure VacA (R : Option Col) (w : World) (e : Ending) (w' : World) : Prop where
  bel : Below w.heap.size w w'
  bad : R = none → e = .returned (.tuple #[.agg #[.string em, .slice none 0 0, .slice none 0 0], .int .i64 1])
  ok : ∀ c, R = some c → ∃ v u mid, e = .returned (.tuple #[.agg #[.string c.name, v, u], .int .i64 0]) ∧ w.heap.size ≤ mid ∧ mid ≤ w'.heap.size ∧ OwnChH w' w.heap.size mid v c.chs ∧ OwnDfH w' mid w'.heap.size u c.dfs
theorem vacB_none (t : Int) (f : List Chn) (k : Nat) (h : k < f.length) (hg : (leftV t f[k].vs).length = 0) : vacB t (f.take (k + 1)) = vacB t (f.take k) := by
  unfold vacB; rw [List.take_succ_eq_append_getElem h, List.flatMap_append, List.flatMap_cons, List.flatMap_nil, List.append_nil, if_pos hg, List.append_nil]
theorem vacB_some (t : Int) (f : List Chn) (k : Nat) (h : k < f.length) (hg : ¬ (leftV t f[k].vs).length = 0) : vacB t (f.take (k + 1)) = vacB t (f.take k) ++ [⟨f[k].id, leftV t f[k].vs⟩] := by
  unfold vacB; rw [List.take_succ_eq_append_getElem h, List.flatMap_append, List.flatMap_cons, List.flatMap_nil, List.append_nil, if_neg hg]
theorem vacB_len (t : Int) : ∀ f : List Chn, (vacB t f).length ≤ f.length
  | [] => Nat.le_refl _
  | c :: f => by
    have ih := vacB_len t f
    unfold vacB at ih ⊢
    rw [List.flatMap_cons, List.length_append, List.length_cons]
    by_cases hg : (leftV t c.vs).length = 0
    · rw [if_pos hg, List.length_nil]; omega
    · rw [if_neg hg, List.length_cons, List.length_nil]; omega
theorem vacB_mem {t : Int} {f : List Chn} {x : Chn} (h : x ∈ vacB t f) : ∃ y ∈ f, x.id = y.id ∧ x.vs = leftV t y.vs ∧ 0 < x.vs.length := by
  unfold vacB at h
  obtain ⟨y, hy, hx⟩ := List.mem_flatMap.1 h
  by_cases hg : (leftV t y.vs).length = 0
  · rw [if_pos hg] at hx; simp at hx
  · rw [if_neg hg] at hx
    simp at hx
    subst hx
    exact ⟨y, hy, rfl, rfl, Nat.pos_of_ne_zero hg⟩
theorem leftV_len (t : Int) (l : List Ver) : (leftV t l).length ≤ l.length + 1 := by
  have := trk_len t l zG
  unfold leftV leftT trP
  split
  · omega
  · rw [List.length_cons]; omega
theorem leftV_sz {c : Col} (h : SzCol c) {x : Chn} (hx : x ∈ c.chs) (t : Int) : ∀ e ∈ leftV t x.vs, e.doc.t.size ≤ 1048576 := by
  intro e he
  have h1 := trP_sz h hx t
  unfold leftV leftT at he
  split at he
  · exact szVr_of h hx ((trk_mem t x.vs zG).2 e he)
  · rcases List.mem_cons.1 he with rfl | he
    · exact h1
    · exact szVr_of h hx ((trk_mem t x.vs zG).2 e he)
theorem defsB_all : ∀ (l pre : List Dfn), defsB pre l = true → ∀ d ∈ l, 1 ≤ d.ps.length ∧ d.ps.length ≤ 2
  | [], _, _ => fun d hd => by simp at hd
  | x :: r, pre, h => by
    unfold defsB at h
    simp only [Bool.and_eq_true] at h
    obtain ⟨h1, _, h3⟩ := h
    intro d hd
    rcases List.mem_cons.1 hd with rfl | hd
    · unfold defB at h1
      simp only [Bool.and_eq_true, decide_eq_true_eq] at h1
      exact h1.2.1
    · exact defsB_all r _ h3 d hd
theorem collB_defs {c : Col} (h : collB c = true) : c.dfs.length ≤ 3 ∧ ∀ d ∈ c.dfs, 1 ≤ d.ps.length ∧ d.ps.length ≤ 2 := by
  unfold collB dfsB at h
  simp only [Bool.and_eq_true, decide_eq_true_eq] at h
  exact ⟨h.2.1.1, defsB_all _ _ h.2.1.2⟩
theorem rowInDf {w : World} {p : Option Addr} {l : List Dfn} (h : RowDf w p l) : InDf w p l := by
  rcases h with rfl | ⟨g, rfl, h⟩
  · exact .inl rfl
  · refine .inr ⟨g, 0, rfl, h.lt, fun i hi => ?_⟩
    obtain ⟨h0, q, cap, h1, _, h2⟩ := h.cells i hi
    rw [Nat.zero_add]
    exact ⟨h0, q, cap, h1, rowInD h2⟩
theorem rowInCh {w : World} {p : Option Addr} {l : List Chn} (h : RowCh w p l) : InCh w p l := by
  rcases h with rfl | ⟨g, rfl, h⟩
  · exact .inl rfl
  · exact InVr.rowOf h
theorem OwnChH.slice {w : World} {lo hi : Nat} {v : Value} {f : List Chn} (h : OwnChH w lo hi v f) : ∃ p c, v = .slice p f.length c := by
  rcases h.own.form with ⟨e, e2⟩ | ⟨g, cap, e, _⟩
  · exact ⟨none, 0, by rw [e, e2]; rfl⟩
  · exact ⟨_, cap, e⟩
theorem OwnDfH.slice {w : World} {lo hi : Nat} {v : Value} {f : List Dfn} (h : OwnDfH w lo hi v f) : ∃ p c, v = .slice p f.length c := by
  rcases h.own.form with ⟨e, e2⟩ | ⟨g, cap, e, _⟩
  · exact ⟨none, 0, by rw [e, e2]; rfl⟩
  · exact ⟨_, cap, e⟩
theorem wpList_appCh {w : World} {ops : Array Oper} {rest : List Oper} {o : Oper} {a : Act} {Q : Exit → Act → World → Prop} (hgd : o.guard = none) (s x : Operand)
    (ho : o.op = .call { callee := .builtin .append, args := #[s, x], argTypes := #[32, 32] }) (base n : Nat) (v : Value) (xs : List Value)
    (hs : a.eval s = v) (hown : w.ownsRow base 67 2 v n xs) (ad : Addr) (m c : Nat) (news : List Value) (hx : a.eval x = .slice (some ad) m c) (hl : news.length = m * 2) (hnews : ∀ j u, news[j]? = some u → w.cell? (ad.add j) = some u) (h1 : ∀ u ∈ news, u.oneCell' = true)
    (hn : n ≤ 1000) (hm : m ≤ 1000) (hbase : base ≤ w.heap.size)
    (hK : ∀ v' w', w'.ownsRow base 67 2 v' (n + m) (xs ++ news) → w.grownBy w' v.ownBlock → (v'.ownBlock = v.ownBlock ∨ v'.ownBlock = some w.heap.size) → wpList Tryz.prog ops Q rest (a.put o.dst v') w') : wpList Tryz.prog ops Q (o :: rest) a w := by
  refine wpList_plain hgd fun K hK2 => ?_
  obtain ⟨i0, hi, hz0, hz1, hz2⟩ := info_parts infoCh
  obtain ⟨v', w', hr, h2, h3, h4, h5⟩ := run_append_own_at (P := Tryz.prog) w base 32 o.type 67 i0 (.agg #[.int .i64 0, .slice none 0 0]) 2 32 Tryz.underlying32 hi hz0 hz1 hz2 rfl (by decide) v n xs hown ad m c news hl hnews h1 (by unfold maxLen; omega) (by omega) hbase
  unfold Oper.wp execOp
  simp only [ho, resolve, invoke, builtin, Sem.run_bind, Sem.run_pure, Result.andThen_ok, List.map_toArray, List.map_cons, List.map_nil, hs, hx, hr]
  exact hK2 _ _ (hK v' w' h2 h3 h5)

end Go.Proofs.YtncpijfbbgipaaaGreatDoor.Co

/- The specification's Vacuum: what is left, and the walk. -/
namespace Go.Proofs.YtncpijfbbgipaaaGreatDoor.Co
open Go.RowKit Tr
set_option linter.unusedVariables false

/-- The place that the specification's search has come to. -/
structure InvV (t : Int) (l : List Ver) (n : Nat) : Prop where
  lt : n < l.length
  how : (n = 0 ∧ ¬ (l[n]'lt).tm ≤ t) ∨ ((l[n]'lt).tm ≤ t ∧ trk t zG l = trk t (l[n]'lt) (l.drop (n + 1)))
theorem InvV.start (t : Int) (l : List Ver) (h : 0 < l.length) : InvV t l 0 := by
  refine ⟨h, ?_⟩
  by_cases hc : l[0].tm ≤ t
  · refine .inr ⟨hc, ?_⟩
    cases l with
    | nil => simp at h
    | cons v r => rw [trk_yes t zG v r hc]; rfl
  · exact .inl ⟨rfl, hc⟩
theorem InvV.step {t : Int} {l : List Ver} {n : Nat} (h : InvV t l n) (hr : (h1 : n + 1 < l.length) → l[n].tm < l[n + 1].tm) (h1 : n + 1 < l.length) (hc : l[n + 1].tm ≤ t) : InvV t l (n + 1) := by
  have hlt := h.lt
  have hr' := hr h1
  refine ⟨h1, .inr ⟨hc, ?_⟩⟩
  rcases h.how with ⟨_, h3⟩ | ⟨_, h3⟩
  · omega
  · rw [h3, List.drop_eq_getElem_cons h1, trk_yes t _ _ _ hc]
theorem InvV.left {t : Int} {l : List Ver} {n : Nat} (h : InvV t l n) (he : (h1 : n + 1 < l.length) → ¬ l[n + 1].tm ≤ t) (hlt : n < l.length) :
    (l[n].gone = true → l[n].tm ≤ t → leftV t l = l.drop (n + 1)) ∧ ((l[n].gone = false ∨ ¬ l[n].tm ≤ t) → leftV t l = l.drop n) := by
  rcases h.how with ⟨h2, h3⟩ | ⟨h2, h3⟩
  · refine ⟨fun _ hc => absurd hc h3, fun _ => ?_⟩
    subst h2
    unfold leftV trP leftT
    cases l with
    | nil => simp at hlt
    | cons v r => rw [trk_no t zG v r h3]; rfl
  · have e : trk t zG l = (l[n], l.drop (n + 1)) := by
      rw [h3]
      by_cases h1 : n + 1 < l.length
      · rw [List.drop_eq_getElem_cons h1, trk_no t _ _ _ (he h1)]
      · rw [List.drop_eq_nil_of_le (by omega)]; rfl
    unfold leftV trP leftT
    rw [e]
    refine ⟨fun hg _ => by rw [if_pos hg], fun hg => ?_⟩
    rcases hg with hg | hg
    · show (if l[n].gone = true then _ else _) = _
      rw [if_neg (by rw [hg]; simp), List.drop_eq_getElem_cons hlt]
    · exact absurd h2 hg
/-- Rows that lie in blocks of one's own. -/
def LowQ (base : Nat) (q : Nat → Option Addr) (n : Nat) : Prop := ∀ i b o, i < n → q i = some ⟨b, o, none⟩ → base ≤ b
theorem LowQ.snoc {base n g o : Nat} {q : Nat → Option Addr} (h : LowQ base q n) (hg : base ≤ g) : LowQ base (fun i => if i = n then some ⟨g, o, none⟩ else q i) (n + 1) := by
  intro i b o' hi e
  by_cases hn : i = n
  · simp only [if_pos hn] at e
    injection e with e; injection e with e; omega
  · simp only [if_neg hn] at e
    exact h i b o' (by omega) e
theorem KeptC.set {w : World} {base g o : Nat} {v x : Value} {l : List Chn} {q : Nat → Option Addr} {c : Nat → Nat} {xs : List Value} (h : KeptC w base v l q c xs) (hq : LowQ base q l.length) (hg : g < base) : KeptC (w.setCell ⟨g, o, none⟩ x) base v l q c xs :=
  ⟨World.ownsRow.kept h.row grown_set (by
      cases hv : v.ownBlock with
      | none => exact .inl rfl
      | some b => exact .inr (fun e => by injection e with e; have := (h.row.lt b hv).1; omega)), h.at_, fun i hi => (h.ins i hi).grown grown_set (fun b o e e2 => by injection e2 with e2; have := hq i b o hi e; omega), h.off⟩
theorem KeptC.rowAt {w : World} {base n cap : Nat} {p : Option Addr} {l : List Chn} {q : Nat → Option Addr} {c : Nat → Nat} {xs : List Value} (h : KeptC w base (.slice p n cap) l q c xs) : RowCh w p l := by
  obtain ⟨p', cap', e, hr⟩ := h.inCh
  injection e with e
  rw [e]; exact hr
theorem versB_next2 (id : Int) : ∀ (l : List Ver) (last : Int), versB id last l = true → ∀ n (h : n + 1 < l.length), (l[n]'(by omega)).tm < l[n + 1].tm
  | [], _, _, n, h => by simp at h
  | [_], _, _, n, h => by simp at h
  | v :: u :: r, last, hv, 0, _ => by
    unfold versB at hv
    simp only [Bool.and_eq_true] at hv
    have h2 := hv.2.2.2
    unfold versB at h2
    simp only [Bool.and_eq_true, decide_eq_true_eq] at h2
    exact h2.1
  | v :: u :: r, last, hv, n + 1, h => by
    unfold versB at hv
    simp only [Bool.and_eq_true] at hv
    exact versB_next2 id (u :: r) v.tm hv.2.2.2 n (by simpa using h)
theorem wpList_appVm {w : World} {ops : Array Oper} {rest : List Oper} {o : Oper} {a : Act} {Q : Exit → Act → World → Prop} (hgd : o.guard = none) (s x : Operand)
    (ho : o.op = .call { callee := .builtin .append, args := #[s, x], argTypes := #[65, 65] }) (base : Nat) (v : Value) (l r : List Ver) (p : Option Addr) (c m : Nat) (hm' : r.length = m)
    (hs : a.eval s = v) (hown : OwnVr w base v l) (hx : a.eval x = .slice p m c) (hin : InVr w p r) (hn : l.length ≤ 1000) (hm : r.length ≤ 1000) (hbase : base ≤ w.heap.size)
    (hK : ∀ v' w', OwnVr w' base v' (l ++ r) → Below base w w' → wpList Tryz.prog ops Q rest (a.put o.dst v') w') : wpList Tryz.prog ops Q (o :: rest) a w := by
  subst hm'
  exact wpList_appVr hgd s x ho base v l r p c hs hown hx hin hn hm hbase hK
theorem InVr.dropN {w : World} {b off : Nat} {l : List Ver} (n : Nat) (h : InVr w (some ⟨b, off, none⟩) l) (hn : n < l.length) : InVr w (some ⟨b, off + n * 5, none⟩) (l.drop n) := by
  rcases h with h | ⟨b', off', e, hlt, hc⟩
  · omega
  · injection e with e
    injection e with e1 e2
    subst e1 e2
    refine .inr ⟨b, off + n * 5, rfl, hlt, fun i hi => ?_⟩
    have hi2 : n + i < l.length := by simp at hi; omega
    have := hc (n + i) hi2
    rw [List.getElem_drop]
    rw [show off + n * 5 + i * 5 = off + (n + i) * 5 by omega]
    exact this

set_option maxRecDepth 4000 in
set_option maxHeartbeats 4000000 in
theorem l08Vacuum_any (c : Col) (t : Int) (g1 g2 : Nat) (cp cq : Nat) (w : World) (hr : RdC w g1 g2 c) (h20 : c.chs.length ≤ 20) (hpt : ∀ x ∈ c.chs, topB x.id = true ∧ 1 ≤ x.vs.length ∧ x.vs.length ≤ 12 ∧ versB x.id 0 x.vs = true) :
    Calls Tryz.prog 38 #[.agg #[.string c.name, .slice (some ⟨g1, 0, none⟩) c.chs.length cp, .slice (some ⟨g2, 0, none⟩) c.dfs.length cq], .int .i64 t] w fun e w' => (∃ p ck, e = .returned (.agg #[.string c.name, .slice p (vacB t c.chs).length ck, .slice (some ⟨g2, 0, none⟩) c.dfs.length cq]) ∧ RowCh w' p (vacB t c.chs)) ∧ Below w.heap.size w w' := by
  have HR : Hid (RdC _ _ _ _) := hr
  have HPT : Hid _ := hpt
  have M0 := MkQ.start w (.string c.name) (.slice (some ⟨g1, 0, none⟩) c.chs.length cp) (.slice (some ⟨g2, 0, none⟩) c.dfs.length cq) (.string em) (.slice none 0 0) (.slice none 0 0) 35 35
  have hO0 := World.ownsRow_made (size := 2) (base := w.heap.size + 2) (e := 67) ((w.alloc (.cells #[.string c.name, .slice (some ⟨g1, 0, none⟩) c.chs.length cp, .slice (some ⟨g2, 0, none⟩) c.dfs.length cq] 35)).alloc (.cells #[.string em, .slice none 0 0, .slice none 0 0] 35)) #[] 0 (by simp) (by unfold maxLen; omega) rfl
  simp at hO0
  have M1 := M0.next ((Below.refl _ _).alloc (Nat.le_refl _) (.cells #[] 67))
  clear hr hpt M0
  go_enter Tryz.func38, Tryz.ntmps38
  go_wp2_with fail
  generalize ((w.alloc (.cells #[.string c.name, .slice (some ⟨g1, 0, none⟩) c.chs.length cp, .slice (some ⟨g2, 0, none⟩) c.dfs.length cq] 35)).alloc (.cells #[.string em, .slice none 0 0, .slice none 0 0] 35)).alloc (.cells #[] 67) = W0 at M1 hO0 ⊢
  go_loopw [5, 6] (fun u i wr => ∃ (k : Nat) (qf : Nat → Option Addr) (cf : Nat → Nat) (xs : List Value), k ≤ c.chs.length ∧ i = .int .i64 k ∧ MkQ w wr (.string c.name) (.slice (some ⟨g1, 0, none⟩) c.chs.length cp) (.slice (some ⟨g2, 0, none⟩) c.dfs.length cq) ∧ KeptC wr (w.heap.size + 2) u (vacB t (c.chs.take k)) qf cf xs ∧ Hid (LowQ (w.heap.size + 2) qf (vacB t (c.chs.take k)).length)) (fun _ i _ => c.chs.length - (intOf i).toNat)
  case atStart => exact ⟨0, fun _ => none, fun _ => 0, [], Nat.zero_le _, rfl, M1, ⟨hO0, fun i h => absurd h (by simp [vacB]), fun i h => absurd h (by simp [vacB]), fun i b o h => absurd h (by simp [vacB])⟩, fun i b o h => absurd h (by simp [vacB])⟩
  case round =>
    obtain ⟨k, qf, cf, xs, hk, rfl, M, hKC, HLQ⟩ := hrel
    have HKC : Hid (KeptC _ _ _ _ _ _ _) := hKC
    have HM : Hid (MkQ _ _ _ _ _) := M
    have hz := M.lt
    have hbel := M.bel
    have n1 := M.c1
    clear hKC M1 hO0
    by_cases hlt : k < c.chs.length
    · obtain ⟨x0', pv, cv, x1', hcv, hT⟩ := HR.out.ch.cells k hlt
      have hgl := Nat.lt_of_lt_of_le HR.out.ch.lt hbel.size
      have x0 := (hbel.cell HR.out.ch.lt).trans x0'
      have x1 := (hbel.cell HR.out.ch.lt).trans x1'
      have hlt2 : (k : Int) < (c.chs.length : Int) := by omega
      have hv1 := (HPT.out c.chs[k] (List.getElem_mem _)).2.1
      have hvl := (HPT.out c.chs[k] (List.getElem_mem _)).2.2.1
      have hrs := versB_next2 _ _ _ (HPT.out c.chs[k] (List.getElem_mem _)).2.2.2
      have HNO : Hid ((leftV t c.chs[k].vs).length = 0 → vacB t (c.chs.take (k + 1)) = vacB t (c.chs.take k)) := fun e => vacB_none t c.chs k hlt e
      have HSO : Hid (¬ (leftV t c.chs[k].vs).length = 0 → vacB t (c.chs.take (k + 1)) = vacB t (c.chs.take k) ++ [⟨c.chs[k].id, leftV t c.chs[k].vs⟩]) := fun e => vacB_some t c.chs k hlt e
      have hll := vacB_len t (c.chs.take k)
      rw [List.length_take] at hll
      have HPO : Hid (∀ e ∈ vacB t (c.chs.take k), 0 < e.vs.length) := fun e he => (vacB_mem he).choose_spec.2.2.2
      obtain ⟨x, hx⟩ : ∃ x, x = c.chs[k] := ⟨_, rfl⟩
      rw [← hx] at x0 x1 hcv hT hv1 hvl HNO HSO
      have HRS : Hid (∀ n (h : n + 1 < x.vs.length), (x.vs[n]'(by omega)).tm < x.vs[n + 1].tm) := by
        show ∀ n (h : n + 1 < x.vs.length), (x.vs[n]'(by omega)).tm < x.vs[n + 1].tm
        rw [hx]; exact hrs
      rcases hT.step hbel with h0 | ⟨b, off, rfl, hbl, hcell⟩
      · omega
      have HCE : Hid _ := hcell
      have hvp : (0 : Int) < ((x.vs.length : Nat) : Int) := by omega
      clear hx hT hcell x0' x1' hrs
      go_wp2_with fail
      obtain ⟨VK, hVK⟩ : ∃ VK, VK = vacB t (c.chs.take k) := ⟨_, rfl⟩
      rw [← hVK] at HNO HSO HKC hll HPO HLQ
      clear hVK
      go_loopw [8] (fun i wq => ∃ n : Nat, i = .int .i64 n ∧ wq = wr ∧ InvV t x.vs n) (fun i _ => x.vs.length - (intOf i).toNat)
      case atStart => exact ⟨0, rfl, rfl, InvV.start t x.vs (by omega)⟩
      case round =>
        obtain ⟨n, rfl, rfl, hI⟩ := hrel
        have hnl := hI.lt
        have HI : Hid (InvV _ _ _) := hI
        clear hI
        by_cases hn1 : n + 1 < x.vs.length
        · have hn1' : ((n : Int) + 1) < ((x.vs.length : Nat) : Int) := by omega
          obtain ⟨y0, y1, y2, y3, y4⟩ := HCE.out (n + 1) hn1
          by_cases hle : x.vs[n + 1].tm ≤ t
          · have HI2 : Hid (InvV t x.vs (n + 1)) := HI.out.step (fun h => HRS.out n h) hn1 hle
            go_wp2_with fail
            go_roundw
            case rel => exact ⟨n + 1, by go_num, trivial, HI2.out⟩
            case measure => simp [intOf]; omega
          · have HE : Hid ((h1 : n + 1 < x.vs.length) → ¬ x.vs[n + 1].tm ≤ t) := fun _ => hle
            have hlf := HI.out.left HE.out hnl
            have HLF : Hid (_ ∧ _) := hlf
            have hcn : n < cv := by omega
            have hcn2 : ¬ cv = n := by omega
            have hcn3 : ¬ cv - n = 0 := by omega
            have hdl : (x.vs.drop n).length = x.vs.length - n := List.length_drop
            have hbV : Below wr.heap.size wr (wr.alloc (.cells #[] 69)) := (Below.refl _ _).alloc (Nat.le_refl _) _
            have HV0 : Hid (OwnVr (wr.alloc (.cells #[] 69)) wr.heap.size (.slice (some ⟨wr.heap.size, 0, none⟩) 0 0) []) := World.ownsRow_made (size := 5) (base := wr.heap.size) (e := 69) wr #[] 0 (Nat.le_refl _) (by unfold maxLen; omega) rfl
            have HIN : Hid (InVr (wr.alloc (.cells #[] 69)) (some ⟨b, off + n * 5, none⟩) (x.vs.drop n)) := (InVr.dropN n (.inr ⟨b, off, rfl, hbl, HCE.out⟩) hnl).step hbV
            clear hlf HE HI
            go_wp2_with (at_builtin; refine wpList_appVm rfl (.tmp 41) (.tmp 44) rfl wr.heap.size (.slice (some ⟨wr.heap.size, 0, none⟩) 0 0) [] (x.vs.drop n) (some ⟨b, off + n * 5, none⟩) (cv - n) (x.vs.length - n) hdl rfl HV0.out rfl HIN.out (by simp) (by omega) (by simp) ?_)
            intro v5 w5 hO5 hB5
            obtain ⟨gK, cw, hv5, hgK, hgK2, hcw, _⟩ := rowForm hO5 (by omega)
            subst hv5
            have hin5 := (OwnVr.inVr hO5)
            obtain ⟨p5, c5, e5, hin5⟩ := hin5
            injection e5 with e5 e6 e7
            subst e5
            have HI5 : Hid (InVr w5 (some ⟨gK, 0, none⟩) (x.vs.drop n)) := hin5
            have hcell5 := hin5
            rcases hcell5 with h0 | ⟨gK', off', e, _, hc5⟩
            · omega
            injection e with e
            injection e with e1 e2
            subst e1 e2
            obtain ⟨a0, a1, _, _, _⟩ := hc5 0 (by omega)
            simp only [Nat.zero_mul, Nat.add_zero, Nat.zero_add, List.getElem_drop] at a0 a1
            have BW5 : Below wr.heap.size wr w5 := hbV.trans (hB5.mono (Nat.le_refl _))
            have HM3 : Hid (MkQ _ _ _ _ _) := HM.out.next BW5
            have HK3 : Hid (KeptC _ _ _ _ _ _ _) := HKC.out.next BW5
            have hz5 := HM3.out.lt
            have n15 := HM3.out.c1
            have x05 := (BW5.cell hgl).trans x0
            have hgl5 := Nat.lt_of_lt_of_le hgl BW5.size
            rw [hdl] at hcw
            clear hO5 hB5 hin5 hc5 hbV HV0 HIN e6 e7
            generalize hen : x.vs[n] = en at a0 a1 HLF
            clear hen
            by_cases hgo : en.gone = true
            · rw [hgo] at a1
              by_cases hle2 : en.tm ≤ t
              · have hLE := HLF.out.1 hgo hle2
                have HLE : Hid (leftV t x.vs = x.vs.drop (n + 1)) := hLE
                have hdl1 : (x.vs.drop (n + 1)).length = x.vs.length - n - 1 := by rw [List.length_drop]; omega
                clear hLE HLF
                by_cases hL0 : x.vs.length - n = 1
                · exfalso; omega
                · have hcw1 : ¬ cw = 1 := by omega
                  have hcw2 : ¬ cw - 1 = 0 := by omega
                  have hL1 : (0 : Int) < ((x.vs.length - n - 1 : Nat) : Int) := by omega
                  have hL2 : 0 < x.vs.length - n - 1 := by omega
                  have HI6 : Hid (InVr w5 (some ⟨gK, 0 + 5, none⟩) (x.vs.drop (n + 1))) := by
                    have h := HI5.out
                    rw [List.drop_eq_getElem_cons hnl] at h
                    exact InVr.tail h
                  have HNX : Hid (_ = _) := HSO.out (by rw [HLE.out]; rw [hdl1]; omega)
                  rw [HLE.out] at HNX
                  go_wp2_with (at_builtin; refine wpList_appCh rfl (.tmp 63) (.tmp 72) rfl (w.heap.size + 2) VK.length _ xs rfl (HK3.out.row.alloc _) ⟨w5.heap.size, 0, none⟩ 1 1 [.int .i64 x.id, .slice (some ⟨gK, 5, none⟩) (x.vs.length - n - 1) (cw - 1)] rfl rfl (two_newA _ _ _ _) (two_oneA _ rfl _ _ _) (by omega) (by omega) (by simp; omega) ?_)
                  intro v7 w7 o7 g7 at7
                  have B7 : Below (w.heap.size + 2) w5 w7 := Below.grown ((Below.refl _ w5).alloc (by omega) _) g7 (by simp; omega) (fun b hb => (HK3.out.row.lt b hb).1)
                  have HM7 : Hid (MkQ _ _ _ _ _) := HM3.out.step B7 (Nat.le_refl _)
                  have hK8 := HK3.out.snoc (en := ⟨x.id, x.vs.drop (n + 1)⟩) (p := some ⟨gK, 5, none⟩) (cc := cw - 1) HPO.out (by show 0 < (x.vs.drop (n + 1)).length; omega) (by simpa using HI6.out) (fun b' o' e e2 => by
                    injection e with e; injection e with e; subst e
                    have h2 := (HKC.out.row.lt _ e2.symm).2
                    omega) (by rw [hdl1]; exact o7) g7 (by simpa using at7)
                  have HK8 : Hid (KeptC _ _ _ _ _ _ _) := hK8
                  clear o7 g7 at7 hK8 B7
                  go_wp2_with fail
                  go_roundw
                  case rel => exact ⟨k + 1, _, _, _, by omega, by go_num, HM7.out, by rw [HNX.out]; exact HK8.out, (show LowQ _ _ _ by rw [HNX.out, List.length_append]; exact HLQ.out.snoc (by omega))⟩
                  case measure => simp [intOf]; omega
              · have HLE : Hid (leftV t x.vs = x.vs.drop n) := HLF.out.2 (.inr (by omega))
                have hL1 : (0 : Int) < ((x.vs.length - n : Nat) : Int) := by omega
                clear HLF
                have HNX : Hid (_ = _) := HSO.out (by rw [HLE.out]; rw [hdl]; omega)
                rw [HLE.out] at HNX
                go_wp2_with (at_builtin; refine wpList_appCh rfl (.tmp 63) (.tmp 72) rfl (w.heap.size + 2) VK.length _ xs rfl (HK3.out.row.alloc _) ⟨w5.heap.size, 0, none⟩ 1 1 [.int .i64 x.id, .slice (some ⟨gK, 0, none⟩) (x.vs.length - n) (cw)] rfl rfl (two_newA _ _ _ _) (two_oneA _ rfl _ _ _) (by omega) (by omega) (by simp; omega) ?_)
                intro v7 w7 o7 g7 at7
                have B7 : Below (w.heap.size + 2) w5 w7 := Below.grown ((Below.refl _ w5).alloc (by omega) _) g7 (by simp; omega) (fun b hb => (HK3.out.row.lt b hb).1)
                have HM7 : Hid (MkQ _ _ _ _ _) := HM3.out.step B7 (Nat.le_refl _)
                have hK8 := HK3.out.snoc (en := ⟨x.id, x.vs.drop n⟩) (p := some ⟨gK, 0, none⟩) (cc := cw) HPO.out (by show 0 < (x.vs.drop n).length; omega) HI5.out (fun b' o' e e2 => by
                  injection e with e; injection e with e; subst e
                  have h2 := (HKC.out.row.lt _ e2.symm).2
                  omega) (by rw [hdl]; exact o7) g7 (by simpa using at7)
                have HK8 : Hid (KeptC _ _ _ _ _ _ _) := hK8
                clear o7 g7 at7 hK8 B7
                go_wp2_with fail
                go_roundw
                case rel => exact ⟨k + 1, _, _, _, by omega, by go_num, HM7.out, by rw [HNX.out]; exact HK8.out, (show LowQ _ _ _ by rw [HNX.out, List.length_append]; exact HLQ.out.snoc (by omega))⟩
                case measure => simp [intOf]; omega
            · have hgo2 : en.gone = false := by simpa using hgo
              rw [hgo2] at a1
              have HLE : Hid (leftV t x.vs = x.vs.drop n) := HLF.out.2 (.inl hgo2)
              have hL1 : (0 : Int) < ((x.vs.length - n : Nat) : Int) := by omega
              clear HLF
              have HNX : Hid (_ = _) := HSO.out (by rw [HLE.out]; rw [hdl]; omega)
              rw [HLE.out] at HNX
              go_wp2_with (at_builtin; refine wpList_appCh rfl (.tmp 63) (.tmp 72) rfl (w.heap.size + 2) VK.length _ xs rfl (HK3.out.row.alloc _) ⟨w5.heap.size, 0, none⟩ 1 1 [.int .i64 x.id, .slice (some ⟨gK, 0, none⟩) (x.vs.length - n) (cw)] rfl rfl (two_newA _ _ _ _) (two_oneA _ rfl _ _ _) (by omega) (by omega) (by simp; omega) ?_)
              intro v7 w7 o7 g7 at7
              have B7 : Below (w.heap.size + 2) w5 w7 := Below.grown ((Below.refl _ w5).alloc (by omega) _) g7 (by simp; omega) (fun b hb => (HK3.out.row.lt b hb).1)
              have HM7 : Hid (MkQ _ _ _ _ _) := HM3.out.step B7 (Nat.le_refl _)
              have hK8 := HK3.out.snoc (en := ⟨x.id, x.vs.drop n⟩) (p := some ⟨gK, 0, none⟩) (cc := cw) HPO.out (by show 0 < (x.vs.drop n).length; omega) HI5.out (fun b' o' e e2 => by
                injection e with e; injection e with e; subst e
                have h2 := (HKC.out.row.lt _ e2.symm).2
                omega) (by rw [hdl]; exact o7) g7 (by simpa using at7)
              have HK8 : Hid (KeptC _ _ _ _ _ _ _) := hK8
              clear o7 g7 at7 hK8 B7
              go_wp2_with fail
              go_roundw
              case rel => exact ⟨k + 1, _, _, _, by omega, by go_num, HM7.out, by rw [HNX.out]; exact HK8.out, (show LowQ _ _ _ by rw [HNX.out, List.length_append]; exact HLQ.out.snoc (by omega))⟩
              case measure => simp [intOf]; omega
        · have hn1' : ¬ ((n : Int) + 1) < ((x.vs.length : Nat) : Int) := by omega
          have HE : Hid ((h1 : n + 1 < x.vs.length) → ¬ x.vs[n + 1].tm ≤ t) := fun h => absurd h hn1
          have hlf := HI.out.left HE.out hnl
          have HLF : Hid (_ ∧ _) := hlf
          have hcn : n < cv := by omega
          have hcn2 : ¬ cv = n := by omega
          have hcn3 : ¬ cv - n = 0 := by omega
          have hdl : (x.vs.drop n).length = x.vs.length - n := List.length_drop
          have hbV : Below wr.heap.size wr (wr.alloc (.cells #[] 69)) := (Below.refl _ _).alloc (Nat.le_refl _) _
          have HV0 : Hid (OwnVr (wr.alloc (.cells #[] 69)) wr.heap.size (.slice (some ⟨wr.heap.size, 0, none⟩) 0 0) []) := World.ownsRow_made (size := 5) (base := wr.heap.size) (e := 69) wr #[] 0 (Nat.le_refl _) (by unfold maxLen; omega) rfl
          have HIN : Hid (InVr (wr.alloc (.cells #[] 69)) (some ⟨b, off + n * 5, none⟩) (x.vs.drop n)) := (InVr.dropN n (.inr ⟨b, off, rfl, hbl, HCE.out⟩) hnl).step hbV
          clear hlf HE HI
          go_wp2_with (at_builtin; refine wpList_appVm rfl (.tmp 41) (.tmp 44) rfl wr.heap.size (.slice (some ⟨wr.heap.size, 0, none⟩) 0 0) [] (x.vs.drop n) (some ⟨b, off + n * 5, none⟩) (cv - n) (x.vs.length - n) hdl rfl HV0.out rfl HIN.out (by simp) (by omega) (by simp) ?_)
          intro v5 w5 hO5 hB5
          obtain ⟨gK, cw, hv5, hgK, hgK2, hcw, _⟩ := rowForm hO5 (by omega)
          subst hv5
          have hin5 := (OwnVr.inVr hO5)
          obtain ⟨p5, c5, e5, hin5⟩ := hin5
          injection e5 with e5 e6 e7
          subst e5
          have HI5 : Hid (InVr w5 (some ⟨gK, 0, none⟩) (x.vs.drop n)) := hin5
          have hcell5 := hin5
          rcases hcell5 with h0 | ⟨gK', off', e, _, hc5⟩
          · omega
          injection e with e
          injection e with e1 e2
          subst e1 e2
          obtain ⟨a0, a1, _, _, _⟩ := hc5 0 (by omega)
          simp only [Nat.zero_mul, Nat.add_zero, Nat.zero_add, List.getElem_drop] at a0 a1
          have BW5 : Below wr.heap.size wr w5 := hbV.trans (hB5.mono (Nat.le_refl _))
          have HM3 : Hid (MkQ _ _ _ _ _) := HM.out.next BW5
          have HK3 : Hid (KeptC _ _ _ _ _ _ _) := HKC.out.next BW5
          have hz5 := HM3.out.lt
          have n15 := HM3.out.c1
          have x05 := (BW5.cell hgl).trans x0
          have hgl5 := Nat.lt_of_lt_of_le hgl BW5.size
          rw [hdl] at hcw
          clear hO5 hB5 hin5 hc5 hbV HV0 HIN e6 e7
          generalize hen : x.vs[n] = en at a0 a1 HLF
          clear hen
          by_cases hgo : en.gone = true
          · rw [hgo] at a1
            by_cases hle2 : en.tm ≤ t
            · have hLE := HLF.out.1 hgo hle2
              have HLE : Hid (leftV t x.vs = x.vs.drop (n + 1)) := hLE
              have hdl1 : (x.vs.drop (n + 1)).length = x.vs.length - n - 1 := by rw [List.length_drop]; omega
              clear hLE HLF
              by_cases hL0 : x.vs.length - n = 1
              · have HNX : Hid (_ = _) := HNO.out (by rw [HLE.out, hdl1]; omega)
                have hL1 : ¬ (0 : Int) < ((x.vs.length - n - 1 : Nat) : Int) := by omega
                have hLp : 1 ≤ x.vs.length - n := by omega
                clear hL0
                go_wp2_with fail
                all_goals
                  go_roundw
                  case rel => exact ⟨k + 1, qf, cf, xs, by omega, by go_num, HM3.out, by rw [HNX.out]; exact HK3.out, by rw [HNX.out]; exact HLQ⟩
                  case measure => simp [intOf]; omega
              · exfalso; omega
            · have HLE : Hid (leftV t x.vs = x.vs.drop n) := HLF.out.2 (.inr (by omega))
              have hL1 : (0 : Int) < ((x.vs.length - n : Nat) : Int) := by omega
              clear HLF
              have HNX : Hid (_ = _) := HSO.out (by rw [HLE.out]; rw [hdl]; omega)
              rw [HLE.out] at HNX
              go_wp2_with (at_builtin; refine wpList_appCh rfl (.tmp 63) (.tmp 72) rfl (w.heap.size + 2) VK.length _ xs rfl (HK3.out.row.alloc _) ⟨w5.heap.size, 0, none⟩ 1 1 [.int .i64 x.id, .slice (some ⟨gK, 0, none⟩) (x.vs.length - n) (cw)] rfl rfl (two_newA _ _ _ _) (two_oneA _ rfl _ _ _) (by omega) (by omega) (by simp; omega) ?_)
              intro v7 w7 o7 g7 at7
              have B7 : Below (w.heap.size + 2) w5 w7 := Below.grown ((Below.refl _ w5).alloc (by omega) _) g7 (by simp; omega) (fun b hb => (HK3.out.row.lt b hb).1)
              have HM7 : Hid (MkQ _ _ _ _ _) := HM3.out.step B7 (Nat.le_refl _)
              have hK8 := HK3.out.snoc (en := ⟨x.id, x.vs.drop n⟩) (p := some ⟨gK, 0, none⟩) (cc := cw) HPO.out (by show 0 < (x.vs.drop n).length; omega) HI5.out (fun b' o' e e2 => by
                injection e with e; injection e with e; subst e
                have h2 := (HKC.out.row.lt _ e2.symm).2
                omega) (by rw [hdl]; exact o7) g7 (by simpa using at7)
              have HK8 : Hid (KeptC _ _ _ _ _ _ _) := hK8
              clear o7 g7 at7 hK8 B7
              go_wp2_with fail
              go_roundw
              case rel => exact ⟨k + 1, _, _, _, by omega, by go_num, HM7.out, by rw [HNX.out]; exact HK8.out, (show LowQ _ _ _ by rw [HNX.out, List.length_append]; exact HLQ.out.snoc (by omega))⟩
              case measure => simp [intOf]; omega
          · have hgo2 : en.gone = false := by simpa using hgo
            rw [hgo2] at a1
            have HLE : Hid (leftV t x.vs = x.vs.drop n) := HLF.out.2 (.inl hgo2)
            have hL1 : (0 : Int) < ((x.vs.length - n : Nat) : Int) := by omega
            clear HLF
            have HNX : Hid (_ = _) := HSO.out (by rw [HLE.out]; rw [hdl]; omega)
            rw [HLE.out] at HNX
            go_wp2_with (at_builtin; refine wpList_appCh rfl (.tmp 63) (.tmp 72) rfl (w.heap.size + 2) VK.length _ xs rfl (HK3.out.row.alloc _) ⟨w5.heap.size, 0, none⟩ 1 1 [.int .i64 x.id, .slice (some ⟨gK, 0, none⟩) (x.vs.length - n) (cw)] rfl rfl (two_newA _ _ _ _) (two_oneA _ rfl _ _ _) (by omega) (by omega) (by simp; omega) ?_)
            intro v7 w7 o7 g7 at7
            have B7 : Below (w.heap.size + 2) w5 w7 := Below.grown ((Below.refl _ w5).alloc (by omega) _) g7 (by simp; omega) (fun b hb => (HK3.out.row.lt b hb).1)
            have HM7 : Hid (MkQ _ _ _ _ _) := HM3.out.step B7 (Nat.le_refl _)
            have hK8 := HK3.out.snoc (en := ⟨x.id, x.vs.drop n⟩) (p := some ⟨gK, 0, none⟩) (cc := cw) HPO.out (by show 0 < (x.vs.drop n).length; omega) HI5.out (fun b' o' e e2 => by
              injection e with e; injection e with e; subst e
              have h2 := (HKC.out.row.lt _ e2.symm).2
              omega) (by rw [hdl]; exact o7) g7 (by simpa using at7)
            have HK8 : Hid (KeptC _ _ _ _ _ _ _) := hK8
            clear o7 g7 at7 hK8 B7
            go_wp2_with fail
            go_roundw
            case rel => exact ⟨k + 1, _, _, _, by omega, by go_num, HM7.out, by rw [HNX.out]; exact HK8.out, (show LowQ _ _ _ by rw [HNX.out, List.length_append]; exact HLQ.out.snoc (by omega))⟩
            case measure => simp [intOf]; omega
    · have hlt2 : ¬ (k : Int) < (c.chs.length : Int) := by omega
      have ht : c.chs.take k = c.chs := List.take_of_length_le (by omega)
      rw [ht] at HKC HLQ
      obtain ⟨pk, ck, rfl, hrow⟩ := HKC.out.inCh
      have HRW : Hid (RowCh _ _ _) := hrow
      obtain ⟨mb, ml, mc0, mc1, mc2, mz0, ⟨r0, mr0⟩, ⟨r1, mr1⟩, ⟨r2, mr2⟩, my0⟩ := M
      clear HM
      have hKs := ((((HKC.out.set (o := 1) (x := .slice pk (vacB t c.chs).length ck) HLQ.out (show w.heap.size < w.heap.size + 2 by omega)).set (o := 0) (x := .string c.name) HLQ.out (show w.heap.size + 1 < w.heap.size + 2 by omega)).set (o := 1) (x := .slice pk (vacB t c.chs).length ck) HLQ.out (show w.heap.size + 1 < w.heap.size + 2 by omega)).set (o := 2) (x := .slice (some ⟨g2, 0, none⟩) c.dfs.length cq) HLQ.out (show w.heap.size + 1 < w.heap.size + 2 by omega)).rowAt
      have HKS : Hid (RowCh _ _ _) := hKs
      clear hKs HKC HLQ hrow
      go_wp2_with fail
      refine bodyPost_ret (v := .agg #[.string c.name, .slice pk (vacB t c.chs).length ck, .slice (some ⟨g2, 0, none⟩) c.dfs.length cq]) (by simp [results, Tryz.results38, go_sem, *]) rfl ⟨⟨pk, ⟨ck, rfl⟩, HKS.out⟩, ?_⟩
      (repeat (first | (with_reducible exact Below.refl _ _) | (with_reducible assumption) | (with_reducible apply below_drewN) | (with_reducible apply Below.drew) | ((with_reducible refine Below.setCell ?_ ?_ _); rotate_left; focus (first | (simp; done) | (simp; omega) | omega)) | ((with_reducible refine Below.alloc ?_ ?_ _); rotate_left; focus (first | (simp; done) | (simp; omega) | omega))))

end Go.Proofs.YtncpijfbbgipaaaGreatDoor.Co

/- The program's Vacuum: its walk. -/
namespace Go.Proofs.YtncpijfbbgipaaaGreatDoor.Co
open Go.RowKit Tr
set_option linter.unusedVariables false

set_option maxRecDepth 4000 in
set_option maxHeartbeats 4000000 in
theorem vacuum_any (c : Col) (t : Int) (g1 g2 : Nat) (cp cq : Nat) (w : World) (hr : RdC w g1 g2 c) (hs : SzCol c) :
    Calls Tryz.prog 15 #[.agg #[.string c.name, .slice (some ⟨g1, 0, none⟩) c.chs.length cp, .slice (some ⟨g2, 0, none⟩) c.dfs.length cq], .int .i64 t] w fun e w' => VacA (vacR c t) w e w' := by
  have M0 := MkQ.start w (.string c.name) (.slice (some ⟨g1, 0, none⟩) c.chs.length cp) (.slice (some ⟨g2, 0, none⟩) c.dfs.length cq) (.string em) (.slice none 0 0) (.slice none 0 0) 35 35
  have HC : Hid (∀ W : World, RdC W g1 g2 c → Calls _ _ _ W _) := fun W hW => collOK_any c (some ⟨g1, 0, none⟩) (some ⟨g2, 0, none⟩) cp cq W hW.ch.inCh hW.df hs
  have HR : Hid (RdC _ _ _ _) := hr
  have HSZ : Hid (SzCol c) := hs
  clear hr hs
  have d0 := M0.c0
  have d1 := M0.c1
  have d2 := M0.c2
  cases hB : collB c
  · have HV : Hid (vacR c t = none) := by show vacR c t = none; unfold vacR; rw [hB, if_neg (by simp)]
    rw [hB] at HC
    clear hB
    go_enter Tryz.func15, Tryz.ntmps15
    go_wp2_with fail
    generalize (w.alloc (.cells #[.string c.name, .slice (some ⟨g1, 0, none⟩) c.chs.length cp, .slice (some ⟨g2, 0, none⟩) c.dfs.length cq] 35)).alloc (.cells #[.string em, .slice none 0 0, .slice none 0 0] 35) = W0 at M0 d0 d1 d2 ⊢
    refine (HC.out _ (HR.out.next M0.bel)).mono ?_
    rintro e w1 ⟨rfl, hb⟩
    obtain ⟨mb, ml, mc0, mc1, mc2, mz0, ⟨r0, mr0⟩, ⟨r1, mr1⟩, ⟨r2, mr2⟩, my0⟩ := M0.next hb
    clear hb M0 d0 d1 d2
    go_wp2_with fail
    refine bodyPost_ret (v := .tuple #[.agg #[.string em, .slice none 0 0, .slice none 0 0], .int .i64 1]) (by simp [results, Tryz.results15, go_sem, *]) rfl ⟨?_, fun _ => rfl, fun c' h => by rw [HV.out] at h; cases h⟩
    (repeat (first | (with_reducible exact Below.refl _ _) | (with_reducible assumption) | (with_reducible apply below_drewN) | (with_reducible apply Below.drew) | ((with_reducible refine Below.setCell ?_ ?_ _); rotate_left; focus (first | (simp; done) | (simp; omega) | omega)) | ((with_reducible refine Below.alloc ?_ ?_ _); rotate_left; focus (first | (simp; done) | (simp; omega) | omega))))
  · have HV : Hid (vacR c t = some ⟨c.name, vacB t c.chs, c.dfs⟩) := by show vacR c t = _; unfold vacR; rw [hB, if_pos rfl]
    have hpt := collB_parts hB
    have hdf := collB_defs hB
    have HDF : Hid (_ ∧ _) := hdf
    have h20 := hpt.2.2.2.1
    have HPT : Hid (∀ x ∈ c.chs, topB x.id = true ∧ 1 ≤ x.vs.length ∧ x.vs.length ≤ 12 ∧ versB x.id 0 x.vs = true) := hpt.2.2.2.2.2
    rw [hB] at HC
    clear hB hpt hdf
    go_enter Tryz.func15, Tryz.ntmps15
    go_wp2_with fail
    generalize (w.alloc (.cells #[.string c.name, .slice (some ⟨g1, 0, none⟩) c.chs.length cp, .slice (some ⟨g2, 0, none⟩) c.dfs.length cq] 35)).alloc (.cells #[.string em, .slice none 0 0, .slice none 0 0] 35) = W0 at M0 d0 d1 d2 ⊢
    refine (HC.out _ (HR.out.next M0.bel)).mono ?_
    rintro e w1 ⟨rfl, hb⟩
    have M1 := M0.next hb
    have n1 := M1.c1
    clear hb M0 d0 d1 d2 HC
    go_wp2_with fail
    clear n1
    go_loopw [6, 17] (fun u i wr => ∃ (k : Nat) (qf : Nat → Option Addr) (cf : Nat → Nat) (xs : List Value), k ≤ c.chs.length ∧ i = .int .i64 k ∧ MkQ w wr (.string c.name) (.slice (some ⟨g1, 0, none⟩) c.chs.length cp) (.slice (some ⟨g2, 0, none⟩) c.dfs.length cq) ∧ KeptC wr (w.heap.size + 2) u (vacB t (c.chs.take k)) qf cf xs) (fun _ i _ => c.chs.length - (intOf i).toNat)
    case atStart => exact ⟨0, fun _ => none, fun _ => 0, [], Nat.zero_le _, rfl, M1, KeptC.nil _ _ _ _⟩
    case round =>
      obtain ⟨k, qf, cf, xs, hk, rfl, M, hKC⟩ := hrel
      have HKC : Hid (KeptC _ _ _ _ _ _ _) := hKC
      have HM : Hid (MkQ _ _ _ _ _) := M
      have hz := M.lt
      have hbel := M.bel
      clear hKC M1
      by_cases hlt : k < c.chs.length
      · obtain ⟨x0', pv, cv, x1', hcv, hT⟩ := HR.out.ch.cells k hlt
        have hgl := Nat.lt_of_lt_of_le HR.out.ch.lt hbel.size
        have x0 := (hbel.cell HR.out.ch.lt).trans x0'
        have x1 := (hbel.cell HR.out.ch.lt).trans x1'
        have hlt2 : (k : Int) < (c.chs.length : Int) := by omega
        have hv1 := (HPT.out c.chs[k] (List.getElem_mem _)).2.1
        have hvl := (HPT.out c.chs[k] (List.getElem_mem _)).2.2.1
        have HNO : Hid ((leftV t c.chs[k].vs).length = 0 → vacB t (c.chs.take (k + 1)) = vacB t (c.chs.take k)) := fun e => vacB_none t c.chs k hlt e
        have HSO : Hid (¬ (leftV t c.chs[k].vs).length = 0 → vacB t (c.chs.take (k + 1)) = vacB t (c.chs.take k) ++ [⟨c.chs[k].id, leftV t c.chs[k].vs⟩]) := fun e => vacB_some t c.chs k hlt e
        have hll := vacB_len t (c.chs.take k)
        rw [List.length_take] at hll
        have HPO : Hid (∀ e ∈ vacB t (c.chs.take k), 0 < e.vs.length) := fun e he => (vacB_mem he).choose_spec.2.2.2
        obtain ⟨x, hx⟩ : ∃ x, x = c.chs[k] := ⟨_, rfl⟩
        rw [← hx] at x0 x1 hcv hT hv1 hvl HNO HSO
        have B0 := Box2.start wr (.int .i64 x.id) (.slice pv x.vs.length cv) 67
        have HTR : Hid (Calls _ _ _ _ _) := trackAt_from x.id t pv cv x.vs (wr.alloc (.cells #[.int .i64 x.id, .slice pv x.vs.length cv] 67)) ((hT.step hbel).step B0.bel) (by omega) hcv
        have hlen2 : (trP t x.vs).2.length ≤ 1000 := Nat.le_trans (trk_len t x.vs zG) (by omega)
        have HLV : Hid (leftT (trP t x.vs).1 (trP t x.vs).2 = leftV t x.vs) := rfl
        have HTT : Hid (InVr w pv x.vs) := hT
        obtain ⟨R1, hR1⟩ : ∃ R1, R1 = (trP t x.vs).1 := ⟨_, rfl⟩
        obtain ⟨R2, hR2⟩ : ∃ R2, R2 = (trP t x.vs).2 := ⟨_, rfl⟩
        obtain ⟨L, hL⟩ : ∃ L, L = leftV t x.vs := ⟨_, rfl⟩
        obtain ⟨VK, hVK⟩ : ∃ VK, VK = vacB t (c.chs.take k) := ⟨_, rfl⟩
        rw [← hR1, ← hR2] at HTR
        rw [← hR2] at hlen2
        rw [← hR1, ← hR2, ← hL] at HLV
        rw [← hL, ← hVK] at HNO HSO
        rw [← hVK] at HKC hll HPO
        have e0' := B0.c0
        have e1' := B0.c1
        have el' := B0.lt
        clear hx hR1 hR2 hL hVK hT hcv x0' x1'
        go_wp2_with fail
        generalize hWA : wr.alloc (.cells #[.int .i64 x.id, .slice pv x.vs.length cv] 67) = WA at HTR B0 e0' e1' el' ⊢
        clear hWA
        refine HTR.out.mono ?_
        rintro e w2 ⟨⟨p', c', rfl, hI, hc', hF⟩, hb2⟩
        have HF : Hid (From pv p') := hF
        have HI2 : Hid (InVr w2 p' R2) := hI.step hb2
        have f0 := (hb2.cell el').trans e0'
        have hz2 := Nat.lt_of_lt_of_le el' hb2.size
        have BW2 : Below wr.heap.size wr w2 := B0.bel.trans (hb2.mono B0.bel.size)
        clear hI hc' hF hb2 HTR e0' e1' B0
        go_wp2_with fail
        refine (left_from R1 R2 p' c' w2 HI2.out hlen2).mono ?_
        rintro e w3 ⟨⟨p3, c3, rfl, hI3, hor⟩, hb3⟩
        rw [HLV.out] at hI3 ⊢
        have HI3 : Hid (InVr w3 p3 L) := hI3
        have HOR : Hid (_ ∨ _) := hor
        have f03 := (hb3.cell hz2).trans f0
        have BW3 : Below wr.heap.size wr w3 := BW2.trans (hb3.mono BW2.size)
        have hz3 := Nat.lt_of_lt_of_le hz2 hb3.size
        have HM3 : Hid (MkQ _ _ _ _ _) := HM.out.next BW3
        have HK3 : Hid (KeptC _ _ _ _ _ _ _) := HKC.out.next BW3
        have hz3' := HM3.out.lt
        have hb23 := hb3.size
        have hw23 := BW2.size
        clear hI3 hor hb3 f0 HI2 HLV
        by_cases hL0 : L.length = 0
        · have HNX : Hid (_ = _) := HNO.out hL0
          have hnl : ¬ (0 : Int) < ((L.length : Nat) : Int) := by omega
          clear HNO HSO
          go_wp2_with fail
          go_roundw
          case rel => exact ⟨k + 1, qf, cf, xs, by omega, by go_num, HM3.out, by rw [HNX.out]; exact HK3.out⟩
          case measure => simp [intOf]; omega
        · have HNX : Hid (_ = _) := HSO.out hL0
          have hnl : (0 : Int) < ((L.length : Nat) : Int) := by omega
          clear HNO HSO
          go_wp2_with (at_builtin; refine wpList_appCh rfl (.tmp 28) (.tmp 33) rfl (w.heap.size + 2) VK.length _ xs rfl (HK3.out.row.alloc _) ⟨w3.heap.size, 0, none⟩ 1 1 [.int .i64 x.id, .slice p3 L.length c3] rfl rfl (two_newA _ _ _ _) (two_oneA _ rfl _ _ _) (by omega) (by omega) (by simp; omega) ?_)
          intro v' w7 o7 g7 at7
          have B7 : Below (w.heap.size + 2) w3 w7 := Below.grown ((Below.refl _ w3).alloc (by omega) _) g7 (by simp; omega) (fun b hb => (HK3.out.row.lt b hb).1)
          have HM7 : Hid (MkQ _ _ _ _ _) := HM3.out.step B7 (Nat.le_refl _)
          have hK8 := HK3.out.snoc (en := ⟨x.id, L⟩) (p := p3) (cc := c3) HPO.out (Nat.pos_of_ne_zero hL0) HI3.out (fun b o e e2 => by
            have hlo := (HK3.out.row.lt b e2.symm).1
            rcases HOR.out with h | h
            · rw [h] at e
              obtain ⟨o0, e3⟩ := HF.out b o e
              have hTT := HTT.out
              rw [e3] at hTT
              have := inVr_lt hTT (by omega)
              omega
            · have h1 := h b o e
              have h2 := (HKC.out.row.lt b e2.symm).2
              omega) o7 g7 (by simpa using at7)
          have HK8 : Hid (KeptC _ _ _ _ _ _ _) := hK8
          clear o7 g7 at7 hK8 B7
          go_wp2_with fail
          go_roundw
          case rel => exact ⟨k + 1, _, _, _, by omega, by go_num, HM7.out, by rw [HNX.out]; exact HK8.out⟩
          case measure => simp [intOf]; omega
      · have hlt2 : ¬ (k : Int) < (c.chs.length : Int) := by omega
        have ht : c.chs.take k = c.chs := List.take_of_length_le (by omega)
        rw [ht] at HKC
        obtain ⟨pk, ck, rfl, hrow⟩ := HKC.out.inCh
        have HRW : Hid (RowCh _ _ _) := hrow
        have n0 := M.c0
        have n2 := M.c2
        have hlv := vacB_len t c.chs
        clear ht hrow
        go_wp2_with fail
        refine (ownColl_any c.name pk (some ⟨g2, 0, none⟩) ck cq (vacB t c.chs) c.dfs wr (rowInCh HRW.out) (rowInDf (HR.out.next hbel).df) HSZ.out.name (by omega) (fun p hp => ?_) (by have := HDF.out.1; omega) (fun p hp => ⟨(HSZ.out.dfs p hp).1, by have := (HDF.out.2 p hp).2; omega, (HSZ.out.dfs p hp).2.2⟩)).mono ?_
        · obtain ⟨y, hy, _, h2, _⟩ := vacB_mem hp
          rw [h2]
          exact ⟨Nat.le_trans (leftV_len t y.vs) (by have := (HPT.out y hy).2.2.1; omega), leftV_sz HSZ.out hy t⟩
        rintro e w9 ⟨⟨v9, u9, mid, rfl, hm1, hm2, hCh, hDf⟩, hb9⟩
        obtain ⟨pc9, cc9, rfl⟩ := hCh.slice
        obtain ⟨pd9, cd9, rfl⟩ := hDf.slice
        have HCh : Hid (OwnChH _ _ _ _ _) := hCh
        have HDf : Hid (OwnDfH _ _ _ _ _) := hDf
        obtain ⟨mb, ml, mc0, mc1, mc2, mz0, ⟨r0, mr0⟩, ⟨r1, mr1⟩, ⟨r2, mr2⟩, my0⟩ := M.next hb9
        clear hCh hDf hb9 HM HKC n0 n2
        go_wp2_with fail
        refine bodyPost_ret (v := .tuple #[.agg #[.string c.name, .slice pc9 (vacB t c.chs).length cc9, .slice pd9 c.dfs.length cd9], .int .i64 0]) (by simp [results, Tryz.results15, go_sem, *]) rfl ⟨?_, fun h => (by rw [HV.out] at h; cases h), fun c' h => ?_⟩
        · (repeat (first | (with_reducible exact Below.refl _ _) | (with_reducible assumption) | (with_reducible apply below_drewN) | (with_reducible apply Below.drew) | ((with_reducible refine Below.setCell ?_ ?_ _); rotate_left; focus (first | (simp; done) | (simp; omega) | omega)) | ((with_reducible refine Below.alloc ?_ ?_ _); rotate_left; focus (first | (simp; done) | (simp; omega) | omega))))
        · rw [HV.out] at h
          injection h with h
          subst h
          exact ⟨_, _, mid, rfl, by omega, by simp [World.setCell]; exact hm2, (chH_at (chH_at (chH_at HCh.out _ _ _ (by omega)) _ _ _ (by omega)) _ _ _ (by omega)).mono (by omega) (Nat.le_refl _), (dfH_at (dfH_at (dfH_at HDf.out _ _ _ (by omega)) _ _ _ (by omega)) _ _ _ (by omega)).mono (Nat.le_refl _) (by simp [World.setCell])⟩

end Go.Proofs.YtncpijfbbgipaaaGreatDoor.Co

/- Marks on collections and on rows of values: what the laws' helpers answer, and which memory they change. -/
namespace Go.Proofs.YtncpijfbbgipaaaGreatDoor.Co
open Go.RowKit Tr
set_option linter.unusedVariables false

/-- Values that are an answer's own. -/
def OV (w : World) (base : Nat) (v : Value) (l : List Val) : Prop := w.ownsRow base 39 3 v l.length (flat l)
/-- Values that can be read. -/
def RV (w : World) (v : Value) (l : List Val) : Prop := ∃ p cap, v = .slice p l.length cap ∧ (l = [] ∨ ∃ g, p = some ⟨g, 0, none⟩ ∧ ReadV w g l)
theorem OV.rv {w : World} {base : Nat} {v : Value} {l : List Val} (h : OV w base v l) : RV w v l := by
  have h' := h
  obtain ⟨_, h2⟩ := h
  rcases h2 with ⟨h2, h3⟩ | ⟨g, cap, cur, hv, _⟩
  · have h4 := List.length_eq_zero_iff.1 h3
    subst h4
    exact ⟨none, 0, h2, .inl rfl⟩
  · subst hv
    exact ⟨_, cap, rfl, .inr ⟨g, rfl, ReadV.of_own h'⟩⟩
theorem RV.next {w w' : World} {v : Value} {l : List Val} (h : RV w v l) (hb : Below w.heap.size w w') : RV w' v l := by
  obtain ⟨p, cap, e, h⟩ := h
  rcases h with h | ⟨g, hp, h⟩
  · exact ⟨p, cap, e, .inl h⟩
  · exact ⟨p, cap, e, .inr ⟨g, hp, h.next hb⟩⟩
/-- Values that lie in blocks below a number can still be read where only later blocks have changed. -/
def RVB (w : World) (B : Nat) (v : Value) (l : List Val) : Prop := ∃ p cap, v = .slice p l.length cap ∧ (l = [] ∨ ∃ g, p = some ⟨g, 0, none⟩ ∧ g < B ∧ ReadV w g l)
theorem OV.rvb {w : World} {base : Nat} {v : Value} {l : List Val} (h : OV w base v l) : RVB w w.heap.size v l := by
  have hlt := World.ownsRow.lt h
  obtain ⟨p, cap, e, h⟩ := h.rv
  rcases h with h | ⟨g, hp, h⟩
  · exact ⟨p, cap, e, .inl h⟩
  · exact ⟨p, cap, e, .inr ⟨g, hp, h.lt, h⟩⟩
theorem RVB.step {w w' : World} {B : Nat} {v : Value} {l : List Val} (h : RVB w B v l) (hb : Below B w w') : RVB w' B v l := by
  obtain ⟨p, cap, e, h⟩ := h
  rcases h with h | ⟨g, hp, hg, h⟩
  · exact ⟨p, cap, e, .inl h⟩
  · exact ⟨p, cap, e, .inr ⟨g, hp, hg, h.step hb hg⟩⟩
theorem RVB.rv {w : World} {B : Nat} {v : Value} {l : List Val} (h : RVB w B v l) : RV w v l := by
  obtain ⟨p, cap, e, h⟩ := h
  rcases h with h | ⟨g, hp, _, h⟩
  · exact ⟨p, cap, e, .inl h⟩
  · exact ⟨p, cap, e, .inr ⟨g, hp, h⟩⟩
theorem OV.next {w w' : World} {base : Nat} {v : Value} {l : List Val} (h : OV w base v l) (hb : Below w.heap.size w w') : OV w' base v l := owns_below h hb
theorem OV.chg {w w' : World} {base lo hi : Nat} {v : Value} {l : List Val} (h : OV w base v l) (hc : Chg lo hi w w') (hb : hi ≤ base) : OV w' base v l :=
  hc.owns h (fun g hg => .inr (Nat.le_trans hb (World.ownsRow.lt h g hg).1))

set_option maxRecDepth 4000 in
set_option maxHeartbeats 2000000 in
theorem markColl_any (n : ByteArray) (lo mid hi : Nat) (v1 v2 : Value) (chs : List Chn) (dfs : List Dfn) (w : World) (h1 : OwnChH w lo mid v1 chs) (h2 : OwnDfH w mid hi v2 dfs) (hlm : lo ≤ mid) (hmh : mid ≤ hi) (hlo : hi ≤ w.heap.size) (hcl : chs.length ≤ 1048576) (hcs : ∀ p ∈ chs, p.vs.length ≤ 1048576) (hdl : dfs.length ≤ 1048576) (hds : ∀ p ∈ dfs, p.ps.length ≤ 1048576) :
    Calls Tryz.prog 12 #[.agg #[.string n, v1, v2], .int .i64 1] w fun e w' => e = .returned (.int .i64 ((endDf (endCh 1 chs) dfs : Nat) : Int)) ∧ OwnChH w' lo mid v1 (marksCh 1 chs) ∧ OwnDfH w' mid hi v2 (marksDf (endCh 1 chs) dfs) ∧ Chg lo hi w w' := by
  have X0 := Boxed.start w (.string n) v1 v2 35
  have HC : Hid (Calls _ _ _ _ _) := markChainS_any lo mid v1 chs 1 _ (h1.next X0.bel) (by omega) (by omega) hcl hcs
  have hen := endCh_le 1 chs hcs
  have hen1 := endCh_ge 1 chs
  have hen4 : chs.length * 5242881 ≤ 1048576 * 5242881 := Nat.mul_le_mul_right _ hcl
  have H2 : Hid (OwnDfH _ _ _ _ _) := h2.next X0.bel
  have HD : Hid (∀ W : World, OwnDfH W mid hi v2 dfs → Calls _ _ _ W _) := fun W hW => markDefS_any mid hi v2 dfs (endCh 1 chs) W hW hen1 (by omega) hdl hds
  obtain ⟨E, hE⟩ : ∃ E, E = endCh 1 chs := ⟨_, rfl⟩
  rw [← hE] at HC HD hen hen1 ⊢
  have hEb : E ≤ 6000000000000 := by omega
  obtain ⟨M, hM⟩ : ∃ M, M = endDf E dfs := ⟨_, rfl⟩
  rw [← hM] at HD ⊢
  have hMb : M ≤ 17592186044416 := by
    have a1 := endDf_le E dfs hds
    have a2 : dfs.length * 2097153 ≤ 1048576 * 2097153 := Nat.mul_le_mul_right _ hdl
    omega
  clear h1 h2 hcs hds hE hen hen4 hM
  go_enter Tryz.func12, Tryz.ntmps12
  go_wp2_with fail
  refine HC.out.mono ?_
  rintro e w1 ⟨rfl, hO, hc⟩
  have hbx : Below (w.heap.size + 1) w1 w1 := Below.refl _ _
  have hsz : (w.alloc (.cells #[.string n, v1, v2] 35)).heap.size = w.heap.size + 1 := by simp
  have cells : ∀ o, w1.cell? ⟨w.heap.size, o, none⟩ = (w.alloc (.cells #[.string n, v1, v2] 35)).cell? ⟨w.heap.size, o, none⟩ := fun o => hc.cell (by rw [hsz]; omega) (.inr (by omega))
  have c2 := (cells 2).trans X0.c2
  have HO : Hid (OwnChH _ _ _ _ _) := hO
  have HB : Hid (Chg lo hi w w1) := (Chg.of_below X0.bel).trans ⟨hc.os, hc.tape, hc.output, hc.size, fun k hk ho => hc.block k hk (by omega)⟩
  have HD2 : Hid (OwnDfH _ _ _ _ _) := H2.out.chg hc (.inr (Nat.le_refl _))
  clear hO hc HC cells X0 H2 hbx hsz
  go_wp2_with fail
  refine (HD.out _ HD2.out).mono ?_
  rintro e w2 ⟨rfl, hO2, hc2⟩
  have HO2 : Hid (OwnDfH _ _ _ _ _) := hO2
  have HO1 : Hid (OwnChH _ _ _ _ _) := HO.out.chg hc2 (.inl (Nat.le_refl _))
  have HB2 : Hid (Chg lo hi w w2) := HB.out.trans ⟨hc2.os, hc2.tape, hc2.output, hc2.size, fun k hk ho => hc2.block k hk (by omega)⟩
  clear hO2 hc2 HD HD2 HO HB c2
  go_wp2_with fail
  go_ret
  exact ⟨rfl, HO1.out, HO2.out, HB2.out⟩

end Go.Proofs.YtncpijfbbgipaaaGreatDoor.Co

/- Marks that are held: what the laws' helpers on versions, parts, chains, definitions and collections answer. -/
namespace Go.Proofs.YtncpijfbbgipaaaGreatDoor.Co
open Go.RowKit Tr
set_option linter.unusedVariables false

set_option maxRecDepth 4000 in
set_option maxHeartbeats 2000000 in
theorem heldVersionS_any (a : Option Addr) (c n : Nat) (q : Nat) (w : World) (hr : InVr w a (marksVr q n)) (h1 : 1 ≤ q) (h2 : q + 5 * n ≤ 17592186044416) (hl : n ≤ 1048576) :
    Calls Tryz.prog 68 #[.slice a n c, .int .i64 q] w fun e w' => e = .returned (.int .i64 ((q + 5 * n : Nat) : Int)) ∧ Below w.heap.size w w' := by
  have HR : Hid (InVr _ _ _) := hr
  clear hr
  go_enter Tryz.func68, Tryz.ntmps68
  go_wp2_with fail
  go_loopw [1, 5] (fun x i wr => ∃ k E : Nat, k ≤ n ∧ i = .int .i64 k ∧ x = .int .i64 (E : Int) ∧ E = q + 5 * k ∧ Below w.heap.size w wr) (fun _ i _ => n - (intOf i).toNat)
  case atStart => exact ⟨0, q, Nat.zero_le _, rfl, rfl, by omega, Below.refl _ _⟩
  case round =>
    obtain ⟨k, E, hk, rfl, rfl, hE, hbel⟩ := hrel
    have hz := hbel.size
    by_cases hlt : k < n
    · rcases HR.out.step hbel with h0 | ⟨g, o1, rfl, l1, x⟩
      · rw [marksVr_len] at h0; omega
      have x' := x k (by rw [marksVr_len]; exact hlt)
      simp only [marksVr_get] at x'
      rw [← hE] at x'
      have hk1 : (k : Int) < (n : Int) := by omega
      obtain ⟨B, hB⟩ : ∃ B : Bool, B = boolM ((E : Int) + 1) := ⟨_, rfl⟩
      have hB' : (((E : Int) + 1) % 3 == 0) = B := by rw [hB]; rfl
      have hT' : Int.tmod ((E : Int) + 1) 3 = ((E : Int) + 1) % 3 := Int.tmod_eq_emod_of_nonneg (by omega)
      have HEQ : Hid (E = q + 5 * k) := hE
      have hEb : E ≤ 17592186044411 := by omega
      have hE1 : 1 ≤ E := by omega
      obtain ⟨x0, x1, x2, x3, x4⟩ := x'
      replace x0 : wr.cell? ⟨g, o1 + k * 5, none⟩ = some (.int .i64 (E : Int)) := x0
      replace x1 : wr.cell? ⟨g, o1 + k * 5 + 1, none⟩ = some (.bool B) := by rw [hB]; exact x1
      replace x2 : wr.cell? ⟨g, o1 + k * 5 + 2, none⟩ = some (.int .i64 ((E : Int) + 1 + 1)) := x2
      replace x3 : wr.cell? ⟨g, o1 + k * 5 + 3, none⟩ = some (.int .i64 ((E : Int) + 1 + 1 + 1)) := x3
      obtain ⟨T, hT⟩ : ∃ T, T = Tr.mt (E + 4) := ⟨_, rfl⟩
      replace x4 : wr.cell? ⟨g, o1 + k * 5 + 4, none⟩ = some (.string T) := by rw [hT]; exact x4
      have HM : Hid (∀ (z : Int) (_ : z = ((E + 4 : Nat) : Int)) (W : World), Calls Tryz.prog 66 #[.int .i64 z] W fun e w' => e = .returned (.string T) ∧ Below W.heap.size W w') := fun z hz W => by rw [hT]; exact markText_at (E + 4) z hz (by omega) (by omega) W
      clear hT
      clear x hB hE
      have hnu : Nonempty (Under wr) := ⟨⟨wr, Below.refl _ _⟩⟩
      have q4 : ∀ u : Under wr, u.x.cell? ⟨g, o1 + k * 5 + 4, none⟩ = some (.string T) := fun u => (u.h.cell l1).trans x4
      go_wp2_with fail
      refine wp_region_under (by kernel_rfl) (by kernel_rfl) ?_
      repeat (go_big_quiet_step ((go_at_call 66; exact calls_under _ (HM.out _ (by omega) _))))
      refine wpQuiet_nil ?_
      rintro _ ⟨u, rfl⟩
      go_wp2_with fail
      go_roundw
      case rel => exact ⟨k + 1, E + 5, by omega, by go_num, by go_num, by have := HEQ.out; omega, hbel.trans (u.h.mono hbel.size)⟩
      case measure => simp [intOf]; omega
    · obtain rfl : k = n := by omega
      subst hE
      go_wp2_with fail
      go_ret
      exact ⟨rfl, hbel⟩
set_option maxRecDepth 4000 in
set_option maxHeartbeats 2000000 in
theorem heldPartS_any (a : Option Addr) (c n : Nat) (q : Nat) (w : World) (hr : InD w a (marksPt q n)) (h1 : 1 ≤ q) (h2 : q + 2 * n ≤ 17592186044416) (hl : n ≤ 1048576) :
    Calls Tryz.prog 69 #[.slice a n c, .int .i64 q] w fun e w' => e = .returned (.int .i64 ((q + 2 * n : Nat) : Int)) ∧ Below w.heap.size w w' := by
  have HR : Hid (InD _ _ _) := hr
  clear hr
  go_enter Tryz.func69, Tryz.ntmps69
  go_wp2_with fail
  go_loopw [1, 5] (fun x i wr => ∃ k E : Nat, k ≤ n ∧ i = .int .i64 k ∧ x = .int .i64 (E : Int) ∧ E = q + 2 * k ∧ Below w.heap.size w wr) (fun _ i _ => n - (intOf i).toNat)
  case atStart => exact ⟨0, q, Nat.zero_le _, rfl, rfl, by omega, Below.refl _ _⟩
  case round =>
    obtain ⟨k, E, hk, rfl, rfl, hE, hbel⟩ := hrel
    have hz := hbel.size
    by_cases hlt : k < n
    · rcases HR.out.step hbel with h0 | ⟨g, o1, rfl, l1, x⟩
      · rw [marksPt_len] at h0; omega
      have x' := x k (by rw [marksPt_len]; exact hlt)
      simp only [marksPt_get] at x'
      rw [← hE] at x'
      have hk1 : (k : Int) < (n : Int) := by omega
      obtain ⟨B, hB⟩ : ∃ B : Bool, B = boolM ((E : Int) + 1) := ⟨_, rfl⟩
      have hB' : (((E : Int) + 1) % 3 == 0) = B := by rw [hB]; rfl
      have hT' : Int.tmod ((E : Int) + 1) 3 = ((E : Int) + 1) % 3 := Int.tmod_eq_emod_of_nonneg (by omega)
      have HEQ : Hid (E = q + 2 * k) := hE
      have hEb : E ≤ 17592186044414 := by omega
      have hE1 : 1 ≤ E := by omega
      obtain ⟨x0, x1⟩ := x'
      obtain ⟨T, hT⟩ : ∃ T, T = Tr.mt E := ⟨_, rfl⟩
      replace x0 : wr.cell? ⟨g, o1 + k * 2, none⟩ = some (.string T) := by rw [hT]; exact x0
      replace x1 : wr.cell? ⟨g, o1 + k * 2 + 1, none⟩ = some (.bool B) := by rw [hB]; exact x1
      have HM : Hid (∀ (W : World), Calls Tryz.prog 66 #[.int .i64 (E : Int)] W fun e w' => e = .returned (.string T) ∧ Below W.heap.size W w') := fun W => by rw [hT]; exact markText_at E _ rfl (by omega) (by omega) W
      clear hT
      clear x hB hE
      have hnu : Nonempty (Under wr) := ⟨⟨wr, Below.refl _ _⟩⟩
      have q0 : ∀ u : Under wr, u.x.cell? ⟨g, o1 + k * 2, none⟩ = some (.string T) := fun u => (u.h.cell l1).trans x0
      have q1 : ∀ u : Under wr, u.x.cell? ⟨g, o1 + k * 2 + 1, none⟩ = some (.bool B) := fun u => (u.h.cell l1).trans x1
      go_wp2_with fail
      refine wp_region_under (by kernel_rfl) (by kernel_rfl) ?_
      repeat (go_big_quiet_step ((go_at_call 66; exact calls_under _ (HM.out _))))
      refine wpQuiet_nil ?_
      rintro _ ⟨u, rfl⟩
      have q2 := q1 u
      go_wp2_with fail
      go_roundw
      case rel => exact ⟨k + 1, E + 2, by omega, by go_num, by go_num, by have := HEQ.out; omega, hbel.trans (u.h.mono hbel.size)⟩
      case measure => simp [intOf]; omega
    · obtain rfl : k = n := by omega
      subst hE
      go_wp2_with fail
      go_ret
      exact ⟨rfl, hbel⟩

set_option maxRecDepth 4000 in
set_option maxHeartbeats 2000000 in
theorem heldChainS_any (a : Option Addr) (c : Nat) (f : List Chn) (q : Nat) (w : World) (hr : RowCh w a (marksCh q f)) (h1 : 1 ≤ q) (h2 : q ≤ 1000) (hl : f.length ≤ 1048576) (hs : ∀ p ∈ f, p.vs.length ≤ 1048576) :
    Calls Tryz.prog 36 #[.slice a f.length c, .int .i64 q] w fun e w' => e = .returned (.int .i64 ((endCh q f : Nat) : Int)) ∧ Below w.heap.size w w' := by
  have HR : Hid (RowCh _ _ _) := hr
  have HS : Hid _ := hs
  clear hr hs
  go_enter Tryz.func36, Tryz.ntmps36
  go_wp2_with fail
  go_loopw [1, 5] (fun x i wr => ∃ k : Nat, k ≤ f.length ∧ i = .int .i64 k ∧ x = .int .i64 ((endCh q (f.take k) : Nat) : Int) ∧ Below w.heap.size w wr) (fun _ i _ => f.length - (intOf i).toNat)
  case atStart => exact ⟨0, Nat.zero_le _, rfl, rfl, Below.refl _ _⟩
  case round =>
    obtain ⟨k, hk, rfl, rfl, hbel⟩ := hrel
    have hz := hbel.size
    have hen1 := endCh_ge q (f.take k)
    have hen2 := endCh_le q (f.take k) (fun p hp => HS.out p (List.mem_of_mem_take hp))
    have hen3 : (f.take k).length ≤ 1048576 := by rw [List.length_take]; omega
    have hen4 : (f.take k).length * 5242881 ≤ 1048576 * 5242881 := Nat.mul_le_mul_right _ hen3
    by_cases hlt : k < f.length
    · rcases HR.out.next hbel with h0 | ⟨g, rfl, R⟩
      · rw [← List.length_eq_zero_iff, marksCh_len] at h0; omega
      have hlt2 : (k : Int) < (f.length : Int) := by omega
      have hsk := HS.out f[k] (List.getElem_mem _)
      have hkm : k < (marksCh q f).length := by rw [marksCh_len]; exact hlt
      obtain ⟨x0, pa, ca, x1, t1⟩ := R.cells k hkm
      have hget : (marksCh q f)[k] = ⟨(endCh q (f.take k) : Nat), marksVr (endCh q (f.take k) + 1) f[k].vs.length⟩ := by
        have e : (marksCh q f)[k]? = some ⟨(endCh q (f.take k) : Nat), marksVr (endCh q (f.take k) + 1) f[k].vs.length⟩ := by
          conv => lhs; rw [← List.take_append_drop k f, marksCh_app]
          have hl' : (marksCh q (f.take k)).length = k := by rw [marksCh_len, List.length_take]; omega
          rw [List.getElem?_append_right (by omega), hl', Nat.sub_self, List.drop_eq_getElem_cons hlt]; rfl
        rw [List.getElem?_eq_getElem hkm] at e
        exact Option.some.inj e
      rw [hget] at x0 x1 t1
      simp only [marksVr_len] at x0 x1 t1
      have hsu := endCh_succ q f k hlt
      obtain ⟨E, hE⟩ : ∃ E, E = endCh q (f.take k) := ⟨_, rfl⟩
      rw [← hE] at hen1 hen2 hsu x0 t1 ⊢
      have HM0 := heldVersionS_any pa ca f[k].vs.length (E + 1) wr t1 (by omega) (by omega) hsk
      rw [show ((E + 1 : Nat) : Int) = (E : Int) + 1 by omega] at HM0
      have HM : Hid (Calls _ _ _ _ _) := HM0
      have HSU : Hid _ := hsu
      have hEb : E ≤ 6000000000000 := by omega
      clear R t1 hget hsu hE hen2 hen3 hen4 HM0
      go_wp2_with fail
      refine HM.out.mono ?_
      rintro e w3 ⟨rfl, hb3⟩
      have hb4 := hbel.trans (hb3.mono hbel.size)
      clear hb3 HM
      go_wp2_with fail
      go_roundw
      case rel => exact ⟨k + 1, by omega, by go_num, by rw [HSU.out]; go_num, hb4⟩
      case measure => simp [intOf]; omega
    · obtain rfl : k = f.length := by omega
      rw [List.take_length] at *
      go_wp2_with fail
      go_ret
      exact ⟨rfl, hbel⟩


set_option maxRecDepth 4000 in
set_option maxHeartbeats 2000000 in
theorem heldDefS_any (a : Option Addr) (c : Nat) (f : List Dfn) (q : Nat) (w : World) (hr : RowDf w a (marksDf q f)) (h1 : 1 ≤ q) (h2 : q ≤ 6000000000000) (hl : f.length ≤ 1048576) (hs : ∀ p ∈ f, p.ps.length ≤ 1048576) :
    Calls Tryz.prog 37 #[.slice a f.length c, .int .i64 q] w fun e w' => e = .returned (.int .i64 ((endDf q f : Nat) : Int)) ∧ Below w.heap.size w w' := by
  have HR : Hid (RowDf _ _ _) := hr
  have HS : Hid _ := hs
  clear hr hs
  go_enter Tryz.func37, Tryz.ntmps37
  go_wp2_with fail
  go_loopw [1, 5] (fun x i wr => ∃ k : Nat, k ≤ f.length ∧ i = .int .i64 k ∧ x = .int .i64 ((endDf q (f.take k) : Nat) : Int) ∧ Below w.heap.size w wr) (fun _ i _ => f.length - (intOf i).toNat)
  case atStart => exact ⟨0, Nat.zero_le _, rfl, rfl, Below.refl _ _⟩
  case round =>
    obtain ⟨k, hk, rfl, rfl, hbel⟩ := hrel
    have hz := hbel.size
    have hen1 := endDf_ge q (f.take k)
    have hen2 := endDf_le q (f.take k) (fun p hp => HS.out p (List.mem_of_mem_take hp))
    have hen3 : (f.take k).length ≤ 1048576 := by rw [List.length_take]; omega
    have hen4 : (f.take k).length * 2097153 ≤ 1048576 * 2097153 := Nat.mul_le_mul_right _ hen3
    by_cases hlt : k < f.length
    · rcases HR.out.next hbel with h0 | ⟨g, rfl, R⟩
      · rw [← List.length_eq_zero_iff, marksDf_len] at h0; omega
      have hlt2 : (k : Int) < (f.length : Int) := by omega
      have hsk := HS.out f[k] (List.getElem_mem _)
      have hkm : k < (marksDf q f).length := by rw [marksDf_len]; exact hlt
      obtain ⟨x0, pa, ca, x1, _, t1'⟩ := R.cells k hkm
      have t1 := RowD.inD t1'
      clear t1'
      have hget : (marksDf q f)[k] = ⟨Tr.mt (endDf q (f.take k)), marksPt (endDf q (f.take k) + 1) f[k].ps.length⟩ := by
        have e : (marksDf q f)[k]? = some ⟨Tr.mt (endDf q (f.take k)), marksPt (endDf q (f.take k) + 1) f[k].ps.length⟩ := by
          conv => lhs; rw [← List.take_append_drop k f, marksDf_app]
          have hl' : (marksDf q (f.take k)).length = k := by rw [marksDf_len, List.length_take]; omega
          rw [List.getElem?_append_right (by omega), hl', Nat.sub_self, List.drop_eq_getElem_cons hlt]; rfl
        rw [List.getElem?_eq_getElem hkm] at e
        exact Option.some.inj e
      rw [hget] at x0 x1 t1
      simp only [marksPt_len] at x0 x1 t1
      have hsu := endDf_succ q f k hlt
      obtain ⟨E, hE⟩ : ∃ E, E = endDf q (f.take k) := ⟨_, rfl⟩
      rw [← hE] at hen1 hen2 hsu x0 t1 ⊢
      have HM : Hid (∀ W : World, Below wr.heap.size wr W → Calls Tryz.prog 69 #[.slice pa f[k].ps.length ca, .int .i64 ((E : Int) + 1)] W fun e w' => e = .returned (.int .i64 ((E + 1 + 2 * f[k].ps.length : Nat) : Int)) ∧ Below W.heap.size W w') := fun W hW => heldPartS_any pa ca f[k].ps.length (E + 1) W (t1.step hW) (by omega) (by omega) hsk
      have HSU : Hid _ := hsu
      have hEb : E ≤ 9000000000000 := by omega
      have hgl := R.lt
      obtain ⟨T, hT⟩ : ∃ T, T = Tr.mt E := ⟨_, rfl⟩
      rw [← hT] at x0
      have HMT : Hid (∀ (W : World), Calls Tryz.prog 66 #[.int .i64 (E : Int)] W fun e w' => e = .returned (.string T) ∧ Below W.heap.size W w') := fun W => by rw [hT]; exact markText_at E _ rfl (by omega) (by omega) W
      have r0 : ∀ u : Under wr, u.x.cell? ⟨g, k * 2, none⟩ = some (.string T) := fun u => (u.h.cell hgl).trans x0
      have r1 : ∀ u : Under wr, u.x.cell? ⟨g, k * 2 + 1, none⟩ = some (.slice pa f[k].ps.length ca) := fun u => (u.h.cell hgl).trans x1
      have hnu : Nonempty (Under wr) := ⟨⟨wr, Below.refl _ _⟩⟩
      clear R t1 hget hsu hE hen2 hen3 hen4 hT
      go_wp2_with fail
      refine wp_region_under (by kernel_rfl) (by kernel_rfl) ?_
      repeat (go_big_quiet_step ((go_at_call 66; exact calls_under _ (HMT.out _))))
      refine wpQuiet_nil ?_
      rintro _ ⟨u, rfl⟩
      have s1 := r1 u
      go_wp2_with fail
      refine (HM.out _ u.h).mono ?_
      rintro e w3 ⟨rfl, hb3'⟩
      have hb3 := u.h.trans (hb3'.mono u.h.size)
      clear hb3'
      have hb4 := hbel.trans (hb3.mono hbel.size)
      clear hb3 HM
      go_wp2_with fail
      go_roundw
      case rel => exact ⟨k + 1, by omega, by go_num, by rw [HSU.out]; go_num, hb4⟩
      case measure => simp [intOf]; omega
    · obtain rfl : k = f.length := by omega
      rw [List.take_length] at *
      go_wp2_with fail
      go_ret
      exact ⟨rfl, hbel⟩


set_option maxRecDepth 4000 in
set_option maxHeartbeats 2000000 in
theorem heldColl_any (n : ByteArray) (p q : Option Addr) (c d : Nat) (chs : List Chn) (dfs : List Dfn) (w : World) (h1 : RowCh w p (marksCh 1 chs)) (h2 : RowDf w q (marksDf (endCh 1 chs) dfs)) (hcl : chs.length ≤ 1048576) (hcs : ∀ p ∈ chs, p.vs.length ≤ 1048576) (hdl : dfs.length ≤ 1048576) (hds : ∀ p ∈ dfs, p.ps.length ≤ 1048576) :
    Calls Tryz.prog 13 #[.agg #[.string n, .slice p chs.length c, .slice q dfs.length d], .int .i64 1] w fun e w' => e = .returned (.int .i64 ((endDf (endCh 1 chs) dfs : Nat) : Int)) ∧ Below w.heap.size w w' := by
  have X0 := Boxed.start w (.string n) (.slice p chs.length c) (.slice q dfs.length d) 35
  have HC : Hid (Calls _ _ _ _ _) := heldChainS_any p c chs 1 _ (h1.next X0.bel) (by omega) (by omega) hcl hcs
  have hen := endCh_le 1 chs hcs
  have hen1 := endCh_ge 1 chs
  have hen4 : chs.length * 5242881 ≤ 1048576 * 5242881 := Nat.mul_le_mul_right _ hcl
  have HD : Hid (∀ W : World, Below w.heap.size w W → Calls _ _ _ W _) := fun W hW => heldDefS_any q d dfs (endCh 1 chs) W (h2.next hW) hen1 (by omega) hdl hds
  obtain ⟨E, hE⟩ : ∃ E, E = endCh 1 chs := ⟨_, rfl⟩
  rw [← hE] at HC HD hen hen1 ⊢
  have hEb : E ≤ 6000000000000 := by omega
  have hE0 : ¬ ((E : Nat) : Int) < 0 := by omega
  obtain ⟨M, hM⟩ : ∃ M, M = endDf E dfs := ⟨_, rfl⟩
  rw [← hM] at HD ⊢
  have hM0 : ¬ ((M : Nat) : Int) < 0 := by omega
  clear h1 h2 hcs hds hE hen hen4 hM
  go_enter Tryz.func13, Tryz.ntmps13
  go_wp2_with fail
  refine HC.out.mono ?_
  rintro e w1 ⟨rfl, hb⟩
  have X1 := X0.step hb
  have c2 := X1.c2
  clear hb HC X0
  go_wp2_with fail
  refine (HD.out _ X1.bel).mono ?_
  rintro e w2 ⟨rfl, hb⟩
  have hbw := (X1.step hb).bel
  clear hb HD
  go_wp2_with fail
  go_ret
  exact ⟨rfl, hbw⟩

end Go.Proofs.YtncpijfbbgipaaaGreatDoor.Co

/- The specification's Vacuum, and collections in boxes of the laws. -/
namespace Go.Proofs.YtncpijfbbgipaaaGreatDoor.Co
open Go.RowKit Tr
set_option linter.unusedVariables false

/-- A collection and a code: what Vacuum and Install answer. -/
structure AnsC (R : Col × Int) (w : World) (e : Ending) (w' : World) : Prop where
  bel : Below w.heap.size w w'
  own : ∃ p q cp cq mid, e = .returned (.tuple #[.agg #[.string R.1.name, .slice p R.1.chs.length cp, .slice q R.1.dfs.length cq], .int .i64 R.2]) ∧ w.heap.size ≤ mid ∧ mid ≤ w'.heap.size ∧ OwnChH w' w.heap.size mid (.slice p R.1.chs.length cp) R.1.chs ∧ OwnDfH w' mid w'.heap.size (.slice q R.1.dfs.length cq) R.1.dfs
theorem noCh (w : World) (lo hi : Nat) : OwnChH w lo hi (.slice none 0 0) [] :=
  ⟨fun _ => .slice none 0 0, [], ⟨⟨rfl, .inl ⟨rfl, rfl⟩⟩, fun i h hi => absurd hi (by simp), fun i h hi => absurd hi (by simp), fun i j h h2 hi => absurd hi (by simp), fun i h hi => absurd hi (by simp)⟩, fun b h => (by cases h), fun i h => absurd h (by simp)⟩
theorem noDf (w : World) (lo hi : Nat) : OwnDfH w lo hi (.slice none 0 0) [] :=
  ⟨fun _ => .slice none 0 0, [], ⟨⟨rfl, .inl ⟨rfl, rfl⟩⟩, fun i h hi => absurd hi (by simp), fun i h hi => absurd hi (by simp), fun i j h h2 hi => absurd hi (by simp), fun i h hi => absurd hi (by simp)⟩, fun b h => (by cases h), fun i h => absurd h (by simp)⟩
def zCol : Col := ⟨em, [], []⟩
/-- The answer of Vacuum. -/
def vacP (c : Col) (t : Int) : Col × Int := match vacR c t with | some c' => (c', 0) | none => (zCol, 1)
theorem VacA.ans {c : Col} {t : Int} {w : World} {e : Ending} {w' : World} (h : VacA (vacR c t) w e w') : AnsC (vacP c t) w e w' := by
  refine ⟨h.bel, ?_⟩
  unfold vacP
  cases hR : vacR c t with
  | none => exact ⟨none, none, 0, 0, w'.heap.size, h.bad hR, h.bel.size, Nat.le_refl _, noCh _ _ _, noDf _ _ _⟩
  | some c' =>
    obtain ⟨v, u, mid, e1, h1, h2, h3, h4⟩ := h.ok c' hR
    obtain ⟨p, cp, rfl⟩ := h3.slice
    obtain ⟨q, cq, rfl⟩ := h4.slice
    exact ⟨p, q, cp, cq, mid, e1, h1, h2, h3, h4⟩
/-- Sizes that the laws' helpers ask for. -/
structure SmCol (c : Col) : Prop where
  cl : c.chs.length ≤ 1048576
  cs : ∀ p ∈ c.chs, p.vs.length ≤ 1048576
  dl : c.dfs.length ≤ 1048576
  ds : ∀ p ∈ c.dfs, p.ps.length ≤ 1048576
theorem vacP_small (c : Col) (t : Int) (hs : SzCol c) : SmCol (vacP c t).1 := by
  unfold vacP vacR
  cases hB : collB c
  · rw [if_neg (by simp)]
    exact ⟨by simp [zCol], by simp [zCol], by simp [zCol], by simp [zCol]⟩
  · rw [if_pos rfl]
    have hpt := collB_parts hB
    have hdf := collB_defs hB
    have h20 := hpt.2.2.2.1
    refine ⟨?_, fun p hp => ?_, ?_, fun p hp => ?_⟩
    · show (vacB t c.chs).length ≤ _
      have := vacB_len t c.chs
      omega
    · obtain ⟨y, hy, _, h2, _⟩ := vacB_mem hp
      rw [h2]
      have h1 := leftV_len t y.vs
      have h3 := (hpt.2.2.2.2.2 y hy).2.2.1
      omega
    · have := hdf.1; show c.dfs.length ≤ _; omega
    · have := (hdf.2 p hp).2; omega
theorem OwnChH.row {w : World} {lo hi n c : Nat} {p : Option Addr} {f : List Chn} (h : OwnChH w lo hi (.slice p n c) f) : RowCh w p f := by
  rcases h.own.form with ⟨e, e2⟩ | ⟨g, cap, e, _, hr⟩
  · exact .inl e2
  · injection e with e1 e2 e3
    exact .inr ⟨g, e1, hr⟩
theorem OwnDfH.row {w : World} {lo hi n c : Nat} {p : Option Addr} {f : List Dfn} (h : OwnDfH w lo hi (.slice p n c) f) : RowDf w p f := by
  rcases h.own.form with ⟨e, e2⟩ | ⟨g, cap, e, _, hr⟩
  · exact .inl e2
  · injection e with e1 e2 e3
    exact .inr ⟨g, e1, hr⟩
/-- A collection in a box, its rows between lo, mid and hi. -/
structure BxC (W : World) (b lo mid hi : Nat) (nm : ByteArray) (p q : Option Addr) (n m cp cq : Nat) (f : List Chn) (d : List Dfn) : Prop where
  lt : b < W.heap.size
  out : b < lo ∨ hi ≤ b
  lm : lo ≤ mid
  mh : mid ≤ hi
  hs : hi ≤ W.heap.size
  c0 : W.cell? ⟨b, 0, none⟩ = some (.string nm)
  c1 : W.cell? ⟨b, 1, none⟩ = some (.slice p n cp)
  c2 : W.cell? ⟨b, 2, none⟩ = some (.slice q m cq)
  ch : OwnChH W lo mid (.slice p n cp) f
  df : OwnDfH W mid hi (.slice q m cq) d
theorem BxC.next {W W' : World} {b lo mid hi : Nat} {nm : ByteArray} {p q : Option Addr} {n m cp cq : Nat} {f : List Chn} {d : List Dfn} (h : BxC W b lo mid hi nm p q n m cp cq f d) (hb : Below W.heap.size W W') : BxC W' b lo mid hi nm p q n m cp cq f d :=
  ⟨Nat.lt_of_lt_of_le h.lt hb.size, h.out, h.lm, h.mh, Nat.le_trans h.hs hb.size, (hb.cell h.lt).trans h.c0, (hb.cell h.lt).trans h.c1, (hb.cell h.lt).trans h.c2, h.ch.next hb, h.df.next hb⟩
theorem BxC.chg {W W' : World} {b lo mid hi lo' hi' : Nat} {nm : ByteArray} {p q : Option Addr} {n m cp cq : Nat} {f : List Chn} {d : List Dfn} (h : BxC W b lo mid hi nm p q n m cp cq f d) (hc : Chg lo' hi' W W') (h1 : hi ≤ lo' ∨ hi' ≤ lo) (h2 : b < lo' ∨ hi' ≤ b) : BxC W' b lo mid hi nm p q n m cp cq f d :=
  ⟨Nat.lt_of_lt_of_le h.lt hc.size, h.out, h.lm, h.mh, Nat.le_trans h.hs hc.size, (hc.cell h.lt h2).trans h.c0, (hc.cell h.lt h2).trans h.c1, (hc.cell h.lt h2).trans h.c2, h.ch.chg hc (by have := h.mh; omega), h.df.chg hc (by have := h.lm; omega)⟩
theorem BxC.made {W : World} {lo mid hi : Nat} {nm : ByteArray} {p q : Option Addr} {n m cp cq : Nat} {f : List Chn} {d : List Dfn} (h1 : OwnChH W lo mid (.slice p n cp) f) (h2 : OwnDfH W mid hi (.slice q m cq) d) (hl : lo ≤ mid) (hm : mid ≤ hi) (hh : hi ≤ W.heap.size) (T : TypeId) :
    BxC (W.alloc (.cells #[.string nm, .slice p n cp, .slice q m cq] T)) W.heap.size lo mid hi nm p q n m cp cq f d := by
  have hb : Below W.heap.size W (W.alloc (.cells #[.string nm, .slice p n cp, .slice q m cq] T)) := (Below.refl _ _).alloc (Nat.le_refl _) _
  exact ⟨by simp, .inr hh, hl, hm, by simp; omega, by simp [go_sem], by simp [go_sem], by simp [go_sem], h1.next hb, h2.next hb⟩
theorem BxC.eqc {W : World} {b lo mid hi b' lo' mid' hi' : Nat} {nm : ByteArray} {p q p' q' : Option Addr} {cp cq cp' cq' : Nat} {f : List Chn} {d : List Dfn} {n m n' m' : Nat} (h1 : BxC W b lo mid hi nm p q n m cp cq f d) (h2 : BxC W b' lo' mid' hi' nm p' q' n' m' cp' cq' f d) (en : n = f.length) (em : m = d.length) (en' : n' = f.length) (em' : m' = d.length) (s : SmCol ⟨nm, f, d⟩) :
    Calls Tryz.prog 11 #[.agg #[.string nm, .slice p n cp, .slice q m cq], .agg #[.string nm, .slice p' n' cp', .slice q' m' cq']] W fun e w' => e = .returned (.bool true) ∧ Below W.heap.size W w' := by
  subst en em en' em'
  exact eqColl_same nm p p' q q' cp cp' cq cq' f d W h1.ch.row h2.ch.row h1.df.row h2.df.row s.cl s.cs s.dl s.ds
def endC (f : List Chn) (d : List Dfn) : Nat := endDf (endCh 1 f) d
theorem BxC.mark {W : World} {b lo mid hi : Nat} {nm : ByteArray} {p q : Option Addr} {n m cp cq : Nat} {f : List Chn} {d : List Dfn} (h : BxC W b lo mid hi nm p q n m cp cq f d) (s : SmCol ⟨nm, f, d⟩) :
    Calls Tryz.prog 12 #[.agg #[.string nm, .slice p n cp, .slice q m cq], .int .i64 1] W fun e w' => e = .returned (.int .i64 ((endC f d : Nat) : Int)) ∧ BxC w' b lo mid hi nm p q n m cp cq (marksCh 1 f) (marksDf (endCh 1 f) d) ∧ Chg lo hi W w' := by
  refine (markColl_any nm lo mid hi _ _ f d W h.ch h.df h.lm h.mh h.hs s.cl s.cs s.dl s.ds).mono ?_
  rintro e w' ⟨rfl, h1, h2, hc⟩
  exact ⟨rfl, ⟨Nat.lt_of_lt_of_le h.lt hc.size, h.out, h.lm, h.mh, Nat.le_trans h.hs hc.size, (hc.cell h.lt h.out).trans h.c0, (hc.cell h.lt h.out).trans h.c1, (hc.cell h.lt h.out).trans h.c2, h1, h2⟩, hc⟩
theorem BxC.held {W : World} {b lo mid hi : Nat} {nm : ByteArray} {p q : Option Addr} {n m cp cq : Nat} {f : List Chn} {d : List Dfn} (h : BxC W b lo mid hi nm p q n m cp cq (marksCh 1 f) (marksDf (endCh 1 f) d)) (en : n = f.length) (em : m = d.length) (s : SmCol ⟨nm, f, d⟩) :
    Calls Tryz.prog 13 #[.agg #[.string nm, .slice p n cp, .slice q m cq], .int .i64 1] W fun e w' => e = .returned (.int .i64 ((endC f d : Nat) : Int)) ∧ Below W.heap.size W w' := by
  subst en em
  exact heldColl_any nm p q cp cq f d W h.ch.row h.df.row s.cl s.cs s.dl s.ds
theorem BxC.rd {W : World} {b lo mid hi : Nat} {nm : ByteArray} {g g2 : Nat} {n m cp cq : Nat} {f : List Chn} {d : List Dfn} (h : BxC W b lo mid hi nm (some ⟨g, 0, none⟩) (some ⟨g2, 0, none⟩) n m cp cq f d) : RdC W g g2 ⟨nm, f, d⟩ := rdC_of h.ch h.df

set_option maxRecDepth 4000 in
set_option maxHeartbeats 4000000 in
theorem specVacuum_any (c : Col) (t : Int) (g1 g2 : Nat) (cp cq : Nat) (w : World) (hr : RdC w g1 g2 c) (hs : SzCol c) :
    Calls Tryz.prog 14 #[.agg #[.string c.name, .slice (some ⟨g1, 0, none⟩) c.chs.length cp, .slice (some ⟨g2, 0, none⟩) c.dfs.length cq], .int .i64 t] w fun e w' => VacA (vacR c t) w e w' := by
  have M0 := MkQ.start w (.string c.name) (.slice (some ⟨g1, 0, none⟩) c.chs.length cp) (.slice (some ⟨g2, 0, none⟩) c.dfs.length cq) (.string em) (.slice none 0 0) (.slice none 0 0) 35 35
  have HC : Hid (∀ W : World, RdC W g1 g2 c → Calls _ _ _ W _) := fun W hW => specColl_any c (some ⟨g1, 0, none⟩) (some ⟨g2, 0, none⟩) cp cq W hW.ch.inCh hW.df hs
  have HR : Hid (RdC _ _ _ _) := hr
  have HSZ : Hid (SzCol c) := hs
  clear hr hs
  have d0 := M0.c0
  have d1 := M0.c1
  have d2 := M0.c2
  cases hB : collB c
  · have HV : Hid (vacR c t = none) := by show vacR c t = none; unfold vacR; rw [hB, if_neg (by simp)]
    rw [hB] at HC
    clear hB
    go_enter Tryz.func14, Tryz.ntmps14
    go_wp2_with fail
    generalize (w.alloc (.cells #[.string c.name, .slice (some ⟨g1, 0, none⟩) c.chs.length cp, .slice (some ⟨g2, 0, none⟩) c.dfs.length cq] 35)).alloc (.cells #[.string em, .slice none 0 0, .slice none 0 0] 35) = W0 at M0 d0 d1 d2 ⊢
    refine (HC.out _ (HR.out.next M0.bel)).mono ?_
    rintro e w1 ⟨rfl, hb⟩
    obtain ⟨mb, ml, mc0, mc1, mc2, mz0, ⟨r0, mr0⟩, ⟨r1, mr1⟩, ⟨r2, mr2⟩, my0⟩ := M0.next hb
    clear hb M0 d0 d1 d2
    go_wp2_with fail
    refine bodyPost_ret (v := .tuple #[.agg #[.string em, .slice none 0 0, .slice none 0 0], .int .i64 1]) (by simp [results, Tryz.results14, go_sem, *]) rfl ⟨?_, fun _ => rfl, fun c' h => by rw [HV.out] at h; cases h⟩
    (repeat (first | (with_reducible exact Below.refl _ _) | (with_reducible assumption) | (with_reducible apply below_drewN) | (with_reducible apply Below.drew) | ((with_reducible refine Below.setCell ?_ ?_ _); rotate_left; focus (first | (simp; done) | (simp; omega) | omega)) | ((with_reducible refine Below.alloc ?_ ?_ _); rotate_left; focus (first | (simp; done) | (simp; omega) | omega))))
  · have HV : Hid (vacR c t = some ⟨c.name, vacB t c.chs, c.dfs⟩) := by show vacR c t = _; unfold vacR; rw [hB, if_pos rfl]
    have hpt := collB_parts hB
    have hdf := collB_defs hB
    have HDF : Hid (_ ∧ _) := hdf
    have h20 := hpt.2.2.2.1
    have HPT : Hid (∀ x ∈ c.chs, topB x.id = true ∧ 1 ≤ x.vs.length ∧ x.vs.length ≤ 12 ∧ versB x.id 0 x.vs = true) := hpt.2.2.2.2.2
    rw [hB] at HC
    clear hB hpt hdf
    go_enter Tryz.func14, Tryz.ntmps14
    go_wp2_with fail
    generalize (w.alloc (.cells #[.string c.name, .slice (some ⟨g1, 0, none⟩) c.chs.length cp, .slice (some ⟨g2, 0, none⟩) c.dfs.length cq] 35)).alloc (.cells #[.string em, .slice none 0 0, .slice none 0 0] 35) = W0 at M0 d0 d1 d2 ⊢
    refine (HC.out _ (HR.out.next M0.bel)).mono ?_
    rintro e w1 ⟨rfl, hb⟩
    have M1 := M0.next hb
    have n0 := M1.c0
    have n1 := M1.c1
    have n2 := M1.c2
    clear hb M0 d0 d1 d2 HC
    go_wp2_with fail
    refine (l08Vacuum_any c t g1 g2 cp cq w1 (HR.out.next M1.bel) h20 HPT.out).mono ?_
    rintro e w2 ⟨⟨pk, ck, rfl, hrow⟩, hb⟩
    have HRW : Hid (RowCh _ _ _) := hrow
    have M2 := M1.next hb
    clear hb n0 n1 n2 hrow M1
    have hlv := vacB_len t c.chs
    go_wp2_with fail
    refine (specOwnC_any c.name pk (some ⟨g2, 0, none⟩) ck cq (vacB t c.chs) c.dfs w2 HRW.out (HR.out.next M2.bel).df (by omega) (fun p hp => ?_) (by have := HDF.out.1; omega) (fun p hp => ⟨by have := (HDF.out.2 p hp).2; omega, by have := (HDF.out.2 p hp).1; omega⟩)).mono ?_
    · obtain ⟨y, hy, _, h2, h3⟩ := vacB_mem hp
      refine ⟨?_, h3⟩
      rw [h2]
      exact Nat.le_trans (leftV_len t y.vs) (by have := (HPT.out y hy).2.2.1; omega)
    rintro e w9 ⟨⟨v9, u9, mid, rfl, hm1, hm2, hCh, hDf⟩, hb9⟩
    obtain ⟨pc9, cc9, rfl⟩ := hCh.slice
    obtain ⟨pd9, cd9, rfl⟩ := hDf.slice
    have HCh : Hid (OwnChH _ _ _ _ _) := hCh
    have HDf : Hid (OwnDfH _ _ _ _ _) := hDf
    have hw2 := M2.lt
    obtain ⟨mb, ml, mc0, mc1, mc2, mz0, ⟨r0, mr0⟩, ⟨r1, mr1⟩, ⟨r2, mr2⟩, my0⟩ := M2.next hb9
    clear hCh hDf hb9 M2
    go_wp2_with fail
    refine bodyPost_ret (v := .tuple #[.agg #[.string c.name, .slice pc9 (vacB t c.chs).length cc9, .slice pd9 c.dfs.length cd9], .int .i64 0]) (by simp [results, Tryz.results14, go_sem, *]) rfl ⟨?_, fun h => (by rw [HV.out] at h; cases h), fun c' h => ?_⟩
    · (repeat (first | (with_reducible exact Below.refl _ _) | (with_reducible assumption) | (with_reducible apply below_drewN) | (with_reducible apply Below.drew) | ((with_reducible refine Below.setCell ?_ ?_ _); rotate_left; focus (first | (simp; done) | (simp; omega) | omega)) | ((with_reducible refine Below.alloc ?_ ?_ _); rotate_left; focus (first | (simp; done) | (simp; omega) | omega))))
    · rw [HV.out] at h
      injection h with h
      subst h
      exact ⟨_, _, mid, rfl, by omega, by simp [World.setCell]; exact hm2, (chH_at (chH_at (chH_at HCh.out _ _ _ (by omega)) _ _ _ (by omega)) _ _ _ (by omega)).mono (by omega) (Nat.le_refl _), (dfH_at (dfH_at (dfH_at HDf.out _ _ _ (by omega)) _ _ _ (by omega)) _ _ _ (by omega)).mono (Nat.le_refl _) (by simp [World.setCell])⟩

end Go.Proofs.YtncpijfbbgipaaaGreatDoor.Co

/- Collections in boxes of the laws whose chains lie beside their definitions: marks, and what the laws' helpers answer. -/
namespace Go.Proofs.YtncpijfbbgipaaaGreatDoor.Co
open Go.RowKit Tr
set_option linter.unusedVariables false

/-- Blocks outside a set stay as they were. -/
structure ChgS (S : Nat → Prop) (w w' : World) : Prop where
  os : w'.os = w.os
  tape : w'.tape = w.tape
  output : w'.output = w.output
  size : w.heap.size ≤ w'.heap.size
  block : ∀ k, k < w.heap.size → ¬ S k → w'.heap[k]? = w.heap[k]?
theorem ChgS.refl (S : Nat → Prop) (w : World) : ChgS S w w := ⟨rfl, rfl, rfl, Nat.le_refl _, fun _ _ _ => rfl⟩
theorem ChgS.trans {S : Nat → Prop} {a b c : World} (h : ChgS S a b) (k : ChgS S b c) : ChgS S a c :=
  ⟨k.os.trans h.os, k.tape.trans h.tape, k.output.trans h.output, Nat.le_trans h.size k.size, fun i hi ho => (k.block i (Nat.lt_of_lt_of_le hi h.size) ho).trans (h.block i hi ho)⟩
theorem ChgS.of_grown {S : Nat → Prop} {w w' : World} {row : Option Nat} (h : w.grownBy w' row) (hr : ∀ b, row = some b → S b) : ChgS S w w' :=
  ⟨h.os, h.tape, h.output, h.size, fun k hk ho => h.block k hk (fun e => ho (hr k e.symm))⟩
theorem ChgS.chg {S : Nat → Prop} {lo hi : Nat} {w w' : World} (h : ChgS S w w') (hs : ∀ b, S b → lo ≤ b ∧ b < hi) : Chg lo hi w w' :=
  ⟨h.os, h.tape, h.output, h.size, fun k hk ho => h.block k hk (fun hb => by have := hs k hb; omega)⟩
theorem ChgS.away {S : Nat → Prop} {w w' : World} (h : ChgS S w w') {lo hi : Nat} (hs : ∀ b, S b → b < lo ∨ hi ≤ b) {v : Value} {f : List Dfn} (ho : OwnDfH w lo hi v f) : OwnDfH w' lo hi v f := by
  obtain ⟨vs, xs, hP, hv, hvs⟩ := ho
  have key : ∀ {T : TypeId} {s : Nat} {u : Value} {m : Nat} {ys : List Value}, w.ownsRow lo T s u m ys → (∀ b, u.ownBlock = some b → b < hi) → w'.ownsRow lo T s u m ys := by
    intro T s u m ys hu hb
    obtain ⟨e1, e2⟩ := hu
    refine ⟨e1, ?_⟩
    rcases e2 with e2 | ⟨g, cap, cur, r1, r2, r3, r4⟩
    · exact .inl e2
    · refine .inr ⟨g, cap, cur, r1, r2, ?_, r4⟩
      have hg : g < hi := hb g (by rw [r1]; rfl)
      rw [h.block g (Array.getElem?_eq_some_iff.1 r3).1 (fun hS => by have := hs g hS; omega)]
      exact r3
  exact ⟨vs, xs, ⟨key hP.row hv, hP.at_, fun i hi hk => key (hP.ents i hi hk) (hvs i hi), hP.apart, hP.aside⟩, hv, hvs⟩
/-- A row of chains of one's own, its blocks in a set. -/
def OwnChS (w : World) (lo : Nat) (S : Nat → Prop) (v : Value) (f : List Chn) : Prop := ∃ vs xs, PartCh w lo v f.length f f.length vs xs ∧ (∀ b, v.ownBlock = some b → S b) ∧ ∀ i, i < f.length → ∀ b, (vs i).ownBlock = some b → S b
theorem OwnChS.own {w : World} {lo : Nat} {S : Nat → Prop} {v : Value} {f : List Chn} (h : OwnChS w lo S v f) : OwnCh w lo v f := by
  obtain ⟨vs, xs, h, _⟩ := h; exact ⟨vs, xs, h⟩
theorem OwnChS.next {w w' : World} {lo : Nat} {S : Nat → Prop} {v : Value} {f : List Chn} (h : OwnChS w lo S v f) (hb : Below w.heap.size w w') : OwnChS w' lo S v f := by
  obtain ⟨vs, xs, h, h1, h2⟩ := h; exact ⟨vs, xs, h.next hb, h1, h2⟩
theorem OwnChS.mono {w : World} {lo lo' : Nat} {S S' : Nat → Prop} {v : Value} {f : List Chn} (h : OwnChS w lo S v f) (hb : lo' ≤ lo) (hh : ∀ b, S b → S' b) : OwnChS w lo' S' v f := by
  obtain ⟨vs, xs, h, h1, h2⟩ := h
  exact ⟨vs, xs, ⟨owns_mono h.row hb, h.at_, fun i hi hk => owns_mono (h.ents i hi hk) hb, h.apart, h.aside⟩, fun b e => hh b (h1 b e), fun i hi b e => hh b (h2 i hi b e)⟩
theorem OwnChS.chg {w w' : World} {lo lo' hi' : Nat} {S : Nat → Prop} {v : Value} {f : List Chn} (h : OwnChS w lo S v f) (hc : Chg lo' hi' w w') (ho : ∀ b, S b → b < lo' ∨ hi' ≤ b) : OwnChS w' lo S v f := by
  obtain ⟨vs, xs, h, h1, h2⟩ := h
  exact ⟨vs, xs, ⟨hc.owns h.row (fun g hg => ho g (h1 g hg)), h.at_, fun i hi hk => hc.owns (h.ents i hi hk) (fun g hg => ho g (h2 i hi g hg)), h.apart, h.aside⟩, h1, h2⟩
theorem OwnChH.set {w : World} {lo hi : Nat} {v : Value} {f : List Chn} (h : OwnChH w lo hi v f) : OwnChS w lo (fun b => lo ≤ b ∧ b < hi) v f := by
  obtain ⟨vs, xs, h, h1, h2⟩ := h
  exact ⟨vs, xs, h, fun b e => ⟨(h.row.lt b e).1, h1 b e⟩, fun i hi b e => ⟨(World.ownsRow.lt (h.ents i hi hi) b e).1, h2 i hi b e⟩⟩
theorem OwnChS.row {w : World} {lo n c : Nat} {S : Nat → Prop} {p : Option Addr} {f : List Chn} (h : OwnChS w lo S (.slice p n c) f) : RowCh w p f := by
  rcases h.own.form with ⟨e, e2⟩ | ⟨g, cap, e, _, hr⟩
  · exact .inl e2
  · injection e with e1 e2 e3
    exact .inr ⟨g, e1, hr⟩

set_option maxRecDepth 4000 in
set_option maxHeartbeats 2000000 in
theorem markChainS_set (lo : Nat) (S : Nat → Prop) (v : Value) (f : List Chn) (q : Nat) (w : World) (hown : OwnChS w lo S v f) (h1 : 1 ≤ q) (h2 : q ≤ 1000) (hl : f.length ≤ 1048576) (hs : ∀ p ∈ f, p.vs.length ≤ 1048576) :
    Calls Tryz.prog 34 #[v, .int .i64 q] w fun e w' => e = .returned (.int .i64 ((endCh q f : Nat) : Int)) ∧ OwnChS w' lo S v (marksCh q f) ∧ ChgS S w w' := by
  have HH := hown
  obtain ⟨vs, xs0, hP, hv, hvs⟩ := HH
  have hrow := hP.row
  obtain ⟨hr1, hr2⟩ := hrow
  rcases hr2 with ⟨rfl, h0⟩ | ⟨g, c, cur, rfl, hg, _⟩
  · have hf : f = [] := List.length_eq_zero_iff.1 h0
    subst hf
    have HO0 : Hid (OwnChS _ _ _ _ _) := hown
    clear hown hP hv hvs hr1
    go_enter Tryz.func34, Tryz.ntmps34
    go_wp2_with fail
    refine wp_loop_rounds 1 ?_
    rw [rounds_succ]
    go_wp2_with fail
    go_ret
    exact ⟨rfl, HO0.out, ChgS.refl _ _⟩
  · have HP0 : Hid (PartCh _ _ _ _ _ _ _ _) := hP
    have HV : Hid (∀ b, (Value.slice (some ⟨g, 0, none⟩) f.length c).ownBlock = some b → S b) := hv
    have HVS : Hid (∀ i, i < f.length → ∀ b, (vs i).ownBlock = some b → S b) := hvs
    have HS : Hid _ := hs
    clear hown hP hv hvs hs hr1
    go_enter Tryz.func34, Tryz.ntmps34
    go_wp2_with fail
    go_loopw [1, 5] (fun x i wr => ∃ (k : Nat) (xs : List Value), k ≤ f.length ∧ i = .int .i64 k ∧ x = .int .i64 ((endCh q (f.take k) : Nat) : Int) ∧ PartCh wr lo (.slice (some ⟨g, 0, none⟩) f.length c) f.length (mixMCh q f k) f.length vs xs ∧ ChgS S w wr) (fun _ i _ => f.length - (intOf i).toNat)
    case atStart => exact ⟨0, xs0, Nat.zero_le _, rfl, rfl, by rw [mixMCh_zero]; exact HP0.out, ChgS.refl _ _⟩
    case round =>
      obtain ⟨k, xs, hk, rfl, rfl, hP, hC⟩ := hrel
      have HC : Hid (ChgS _ _ _) := hC
      have hz := hC.size
      have hml := mixMCh_len q f k hk
      have hen1 := endCh_ge q (f.take k)
      have hen2 := endCh_le q (f.take k) (fun p hp => HS.out p (List.mem_of_mem_take hp))
      have hen3 : (f.take k).length ≤ 1048576 := by rw [List.length_take]; omega
      have hen4 : (f.take k).length * 5242881 ≤ 1048576 * 5242881 := Nat.mul_le_mul_right _ hen3
      clear hC HP0
      by_cases hlt : k < f.length
      · have hlt2 : (k : Int) < (f.length : Int) := by omega
        have hsk := HS.out f[k] (List.getElem_mem _)
        have hglr : g < wr.heap.size := (hP.row.lt g rfl).2
        obtain ⟨z0, y0⟩ := own_there hP.row (k * 2) (by omega)
        have f0 := World.ownsRow.frozenAt hP.row (k * 2)
        have hat := (hP.at_ k (by omega) hlt).2
        have y1 := owns_cell hP.row _ _ hat
        have hen := hP.ents k (by omega) hlt
        rw [mixMCh_get q f k hlt] at hen
        have hsu := endCh_succ q f k hlt
        have hmset := mixMCh_set q f k hlt
        obtain ⟨E, hE⟩ : ∃ E, E = endCh q (f.take k) := ⟨_, rfl⟩
        rw [← hE] at hen1 hen2 hsu hmset ⊢
        have hen' : OwnVr (wr.setCell ⟨g, k * 2, none⟩ (.int .i64 E)) lo (vs k) f[k].vs := World.ownsRow.kept hen grown_set (hP.aside k (by omega) hlt)
        have HM0 := markVersionS_any lo (vs k) f[k].vs (E + 1) _ hen' (by omega) (by omega) hsk
        rw [show ((E + 1 : Nat) : Int) = (E : Int) + 1 by omega] at HM0
        have HM : Hid (Calls _ _ _ _ _) := HM0
        have HP : Hid (PartCh _ _ _ _ _ _ _ _) := hP
        have HSU : Hid _ := hsu
        have HMS : Hid _ := hmset
        have hgw : lo ≤ g := (hP.row.lt g rfl).1
        have hEb : E ≤ 6000000000000 := by omega
        clear hP hat hen hen' hsu hmset hE hen2 hen3 hen4 HM0
        go_wp2_with fail
        refine HM.out.mono ?_
        rintro e w3 ⟨rfl, hO3, hg3⟩
        have hP3 := HP.out.mark hml hlt hO3 hg3
        rw [HMS.out] at hP3
        have HP3 : Hid (PartCh _ _ _ _ _ _ _ _) := hP3
        have HC3 : Hid (ChgS _ _ _) := (HC.out.trans (ChgS.of_grown grown_set (fun b hb => by injection hb with hb; subst hb; exact HV.out _ rfl))).trans (ChgS.of_grown hg3 (fun b hb => HVS.out k hlt b hb))
        have hz3 := hg3.size
        clear hP3 hO3 hg3 HM HP HC
        go_wp2_with fail
        go_roundw
        case rel => exact ⟨k + 1, _, by omega, by go_num, by rw [HSU.out]; go_num, HP3.out, HC3.out⟩
        case measure => simp [intOf]; omega
      · obtain rfl : k = f.length := by omega
        rw [mixMCh_full q f _ rfl] at hP
        rw [List.take_length] at *
        have HP : Hid (PartCh _ _ _ _ _ _ _ _) := hP
        clear hP
        go_wp2_with fail
        go_ret
        exact ⟨rfl, ⟨vs, xs, by rw [marksCh_len]; exact HP.out, HV.out, by rw [marksCh_len]; exact HVS.out⟩, HC.out⟩

/-- The blocks of chains: ahead of the definitions', or behind them. -/
def sS (lo mid hi top : Nat) (b : Nat) : Prop := (lo ≤ b ∧ b < mid) ∨ (hi ≤ b ∧ b < top)
/-- A collection and a code: what Install answers. -/
structure AnsS (R : Col × Int) (w : World) (e : Ending) (w' : World) : Prop where
  bel : Below w.heap.size w w'
  own : ∃ p q cp cq mid hi, e = .returned (.tuple #[.agg #[.string R.1.name, .slice p R.1.chs.length cp, .slice q R.1.dfs.length cq], .int .i64 R.2]) ∧ w.heap.size ≤ mid ∧ mid ≤ hi ∧ hi ≤ w'.heap.size ∧ OwnChS w' w.heap.size (sS w.heap.size mid hi w'.heap.size) (.slice p R.1.chs.length cp) R.1.chs ∧ OwnDfH w' mid hi (.slice q R.1.dfs.length cq) R.1.dfs
/-- A collection in a box. -/
structure BxS (W : World) (b lo mid hi top : Nat) (nm : ByteArray) (p q : Option Addr) (n m cp cq : Nat) (f : List Chn) (d : List Dfn) : Prop where
  lt : b < W.heap.size
  out : b < lo ∨ top ≤ b
  lm : lo ≤ mid
  mh : mid ≤ hi
  ht : hi ≤ top
  hs : top ≤ W.heap.size
  c0 : W.cell? ⟨b, 0, none⟩ = some (.string nm)
  c1 : W.cell? ⟨b, 1, none⟩ = some (.slice p n cp)
  c2 : W.cell? ⟨b, 2, none⟩ = some (.slice q m cq)
  ch : OwnChS W lo (sS lo mid hi top) (.slice p n cp) f
  df : OwnDfH W mid hi (.slice q m cq) d
theorem BxS.next {W' : World} {W : World} {b lo mid hi top : Nat} {nm : ByteArray} {p q : Option Addr} {n m cp cq : Nat} {f : List Chn} {d : List Dfn} (h : BxS W b lo mid hi top nm p q n m cp cq f d) (hb : Below W.heap.size W W') : BxS W' b lo mid hi top nm p q n m cp cq f d :=
  ⟨Nat.lt_of_lt_of_le h.lt hb.size, h.out, h.lm, h.mh, h.ht, Nat.le_trans h.hs hb.size, (hb.cell h.lt).trans h.c0, (hb.cell h.lt).trans h.c1, (hb.cell h.lt).trans h.c2, h.ch.next hb, h.df.next hb⟩
theorem BxS.chg {W' : World} {lo' hi' : Nat} {W : World} {b lo mid hi top : Nat} {nm : ByteArray} {p q : Option Addr} {n m cp cq : Nat} {f : List Chn} {d : List Dfn} (h : BxS W b lo mid hi top nm p q n m cp cq f d) (hc : Chg lo' hi' W W') (h1 : top ≤ lo' ∨ hi' ≤ lo) (h2 : b < lo' ∨ hi' ≤ b) : BxS W' b lo mid hi top nm p q n m cp cq f d :=
  have h3 := h.lm; have h4 := h.mh; have h5 := h.ht
  ⟨Nat.lt_of_lt_of_le h.lt hc.size, h.out, h.lm, h.mh, h.ht, Nat.le_trans h.hs hc.size, (hc.cell h.lt h2).trans h.c0, (hc.cell h.lt h2).trans h.c1, (hc.cell h.lt h2).trans h.c2, h.ch.chg hc (fun b hb => by unfold sS at hb; omega), h.df.chg hc (by omega)⟩
/-- In a block that is made behind the rows, or that was made ahead of them. -/
theorem BxS.cells {W : World} {b lo mid hi top : Nat} {nm : ByteArray} {p q : Option Addr} {n m cp cq : Nat} {f : List Chn} {d : List Dfn} (h1 : OwnChS W lo (sS lo mid hi top) (.slice p n cp) f) (h2 : OwnDfH W mid hi (.slice q m cq) d) (hl : lo ≤ mid) (hm : mid ≤ hi) (hh : hi ≤ top) (hs : top ≤ W.heap.size) (ho : b < lo ∨ top ≤ b) (hb : b < W.heap.size) (e0 : W.cell? ⟨b, 0, none⟩ = some (.string nm)) (e1 : W.cell? ⟨b, 1, none⟩ = some (.slice p n cp)) (e2 : W.cell? ⟨b, 2, none⟩ = some (.slice q m cq)) : BxS W b lo mid hi top nm p q n m cp cq f d := ⟨hb, ho, hl, hm, hh, hs, e0, e1, e2, h1, h2⟩
theorem BxS.eqc {b' lo' mid' hi' top' : Nat} {p' q' : Option Addr} {n' m' cp' cq' : Nat} {W : World} {b lo mid hi top : Nat} {nm : ByteArray} {p q : Option Addr} {n m cp cq : Nat} {f : List Chn} {d : List Dfn} (h1 : BxS W b lo mid hi top nm p q n m cp cq f d) (h2 : BxS W b' lo' mid' hi' top' nm p' q' n' m' cp' cq' f d) (en : n = f.length) (em : m = d.length) (en' : n' = f.length) (em' : m' = d.length) (s : SmCol ⟨nm, f, d⟩) :
    Calls Tryz.prog 11 #[.agg #[.string nm, .slice p n cp, .slice q m cq], .agg #[.string nm, .slice p' n' cp', .slice q' m' cq']] W fun e w' => e = .returned (.bool true) ∧ Below W.heap.size W w' := by
  subst en em en' em'
  exact eqColl_same nm p p' q q' cp cp' cq cq' f d W h1.ch.row h2.ch.row h1.df.row h2.df.row s.cl s.cs s.dl s.ds
theorem BxS.held {W : World} {b lo mid hi top : Nat} {nm : ByteArray} {p q : Option Addr} {n m cp cq : Nat} {f : List Chn} {d : List Dfn} (h : BxS W b lo mid hi top nm p q n m cp cq (marksCh 1 f) (marksDf (endCh 1 f) d)) (en : n = f.length) (em : m = d.length) (s : SmCol ⟨nm, f, d⟩) :
    Calls Tryz.prog 13 #[.agg #[.string nm, .slice p n cp, .slice q m cq], .int .i64 1] W fun e w' => e = .returned (.int .i64 ((endC f d : Nat) : Int)) ∧ Below W.heap.size W w' := by
  subst en em
  exact heldColl_any nm p q cp cq f d W h.ch.row h.df.row s.cl s.cs s.dl s.ds
set_option maxRecDepth 4000 in
set_option maxHeartbeats 2000000 in
theorem markColl_set (n : ByteArray) (lo mid hi top : Nat) (v1 v2 : Value) (chs : List Chn) (dfs : List Dfn) (w : World) (h1 : OwnChS w lo (sS lo mid hi top) v1 chs) (h2 : OwnDfH w mid hi v2 dfs) (hlm : lo ≤ mid) (hmh : mid ≤ hi) (hht : hi ≤ top) (hlo : top ≤ w.heap.size) (hcl : chs.length ≤ 1048576) (hcs : ∀ p ∈ chs, p.vs.length ≤ 1048576) (hdl : dfs.length ≤ 1048576) (hds : ∀ p ∈ dfs, p.ps.length ≤ 1048576) :
    Calls Tryz.prog 12 #[.agg #[.string n, v1, v2], .int .i64 1] w fun e w' => e = .returned (.int .i64 ((endDf (endCh 1 chs) dfs : Nat) : Int)) ∧ OwnChS w' lo (sS lo mid hi top) v1 (marksCh 1 chs) ∧ OwnDfH w' mid hi v2 (marksDf (endCh 1 chs) dfs) ∧ Chg lo top w w' := by
  have X0 := Boxed.start w (.string n) v1 v2 35
  have HC : Hid (Calls _ _ _ _ _) := markChainS_set lo (sS lo mid hi top) v1 chs 1 _ (h1.next X0.bel) (by omega) (by omega) hcl hcs
  have hen := endCh_le 1 chs hcs
  have hen1 := endCh_ge 1 chs
  have hen4 : chs.length * 5242881 ≤ 1048576 * 5242881 := Nat.mul_le_mul_right _ hcl
  have H2 : Hid (OwnDfH _ _ _ _ _) := h2.next X0.bel
  have HD : Hid (∀ W : World, OwnDfH W mid hi v2 dfs → Calls _ _ _ W _) := fun W hW => markDefS_any mid hi v2 dfs (endCh 1 chs) W hW hen1 (by omega) hdl hds
  obtain ⟨E, hE⟩ : ∃ E, E = endCh 1 chs := ⟨_, rfl⟩
  rw [← hE] at HC HD hen hen1 ⊢
  have hEb : E ≤ 6000000000000 := by omega
  obtain ⟨M, hM⟩ : ∃ M, M = endDf E dfs := ⟨_, rfl⟩
  rw [← hM] at HD ⊢
  have hMb : M ≤ 17592186044416 := by
    have a1 := endDf_le E dfs hds
    have a2 : dfs.length * 2097153 ≤ 1048576 * 2097153 := Nat.mul_le_mul_right _ hdl
    omega
  have HSS : Hid (∀ b, sS lo mid hi top b → lo ≤ b ∧ b < top) := fun b hb => by unfold sS at hb; omega
  have HSD : Hid (∀ b, sS lo mid hi top b → b < mid ∨ hi ≤ b) := fun b hb => by unfold sS at hb; omega
  clear h1 h2 hcs hds hE hen hen4 hM
  go_enter Tryz.func12, Tryz.ntmps12
  go_wp2_with fail
  refine HC.out.mono ?_
  rintro e w1 ⟨rfl, hO, hc⟩
  have hsz : (w.alloc (.cells #[.string n, v1, v2] 35)).heap.size = w.heap.size + 1 := by simp
  have hcc := hc.chg HSS.out
  have cells : ∀ o, w1.cell? ⟨w.heap.size, o, none⟩ = (w.alloc (.cells #[.string n, v1, v2] 35)).cell? ⟨w.heap.size, o, none⟩ := fun o => hcc.cell (by rw [hsz]; omega) (.inr (by omega))
  have c2 := (cells 2).trans X0.c2
  have HO : Hid (OwnChS _ _ _ _ _) := hO
  have HB : Hid (Chg lo top w w1) := (Chg.of_below X0.bel).trans hcc
  have HD2 : Hid (OwnDfH _ _ _ _ _) := hc.away HSD.out H2.out
  clear hO hc HC cells X0 H2 hsz hcc
  go_wp2_with fail
  refine (HD.out _ HD2.out).mono ?_
  rintro e w2 ⟨rfl, hO2, hc2⟩
  have HO2 : Hid (OwnDfH _ _ _ _ _) := hO2
  have HO1 : Hid (OwnChS _ _ _ _ _) := HO.out.chg hc2 HSD.out
  have HB2 : Hid (Chg lo top w w2) := HB.out.trans ⟨hc2.os, hc2.tape, hc2.output, hc2.size, fun k hk ho => hc2.block k hk (by omega)⟩
  clear hO2 hc2 HD HD2 HO HB c2
  go_wp2_with fail
  go_ret
  exact ⟨rfl, HO1.out, HO2.out, HB2.out⟩
theorem BxS.mark {W : World} {b lo mid hi top : Nat} {nm : ByteArray} {p q : Option Addr} {n m cp cq : Nat} {f : List Chn} {d : List Dfn} (h : BxS W b lo mid hi top nm p q n m cp cq f d) (s : SmCol ⟨nm, f, d⟩) :
    Calls Tryz.prog 12 #[.agg #[.string nm, .slice p n cp, .slice q m cq], .int .i64 1] W fun e w' => e = .returned (.int .i64 ((endC f d : Nat) : Int)) ∧ BxS w' b lo mid hi top nm p q n m cp cq (marksCh 1 f) (marksDf (endCh 1 f) d) ∧ Chg lo top W w' := by
  refine (markColl_set nm lo mid hi top _ _ f d W h.ch h.df h.lm h.mh h.ht h.hs s.cl s.cs s.dl s.ds).mono ?_
  rintro e w' ⟨rfl, h1, h2, hc⟩
  exact ⟨rfl, ⟨Nat.lt_of_lt_of_le h.lt hc.size, h.out, h.lm, h.mh, h.ht, Nat.le_trans h.hs hc.size, (hc.cell h.lt h.out).trans h.c0, (hc.cell h.lt h.out).trans h.c1, (hc.cell h.lt h.out).trans h.c2, h1, h2⟩, hc⟩

end Go.Proofs.YtncpijfbbgipaaaGreatDoor.Co
