/- What is left of a chain: what the program answers. -/
import Derived.Test.YtncpijfbbgipaaaGreatDoorColQQ
import Derived.Test.YtncpijfbbgipaaaGreatDoorColCQ
import Derived.Laws.OwnMore
import Derived.Test.YtncpijfbbgipaaaGreatDoorColAQ
namespace Go.Proofs.YtncpijfbbgipaaaGreatDoor.Co
open Go.RowKit Tr
set_option linter.unusedVariables false

/-- What is left of a chain: its last version up to a time, where it holds a document, and the later ones. -/
def leftT (cur : Ver) (r : List Ver) : List Ver := if cur.gone then r else cur :: r
def leftV (t : Int) (l : List Ver) : List Ver := leftT (trP t l).1 (trP t l).2
def vacB (t : Int) (f : List Chn) : List Chn := f.flatMap (fun c => if (leftV t c.vs).length = 0 then [] else [⟨c.id, leftV t c.vs⟩])
theorem run_app_none {P : Program} {w : World} (base : Nat) (t ty e : TypeId) (i : TypeInfo) (size c : Nat) (ht : P.underlying t = some (.slice e)) (hi : P.info? e = some i)
    (v : Value) (n : Nat) (xs : List Value) (hown : w.ownsRow base e size v n xs) :
    (Builtin.append_ #[t, t] ty #[v, .slice none 0 c]).run P w = .ok v w := by
  rcases hown.2 with ⟨rfl, rfl⟩ | ⟨g, cap, cur, rfl, _, _, hnc, _⟩
  · simp [Builtin.append_, run_underlying ht, sizeOf, typeInfo, hi, Builtin.lenOf, Builtin.firstCells]
  · simp [Builtin.append_, run_underlying ht, sizeOf, typeInfo, hi, Builtin.lenOf, Builtin.firstCells, hnc, storeCells]
/-- Versions behind versions of one's own, wherever they came from. -/
theorem wpList_appVr {w : World} {ops : Array Oper} {rest : List Oper} {o : Oper} {a : Act} {Q : Exit → Act → World → Prop} (hgd : o.guard = none) (s x : Operand)
    (ho : o.op = .call { callee := .builtin .append, args := #[s, x], argTypes := #[65, 65] }) (base : Nat) (v : Value) (l r : List Ver) (p : Option Addr) (c : Nat)
    (hs : a.eval s = v) (hown : OwnVr w base v l) (hx : a.eval x = .slice p r.length c) (hin : InVr w p r) (hn : l.length ≤ 1000) (hm : r.length ≤ 1000) (hbase : base ≤ w.heap.size)
    (hK : ∀ v' w', OwnVr w' base v' (l ++ r) → Below base w w' → wpList Tryz.prog ops Q rest (a.put o.dst v') w') : wpList Tryz.prog ops Q (o :: rest) a w := by
  refine wpList_plain hgd fun K hK2 => ?_
  obtain ⟨i0, hi, hz0, hz1, hz2⟩ := info_parts infoVr
  unfold OwnVr at hown
  have hrun : ∃ v' w', (Builtin.append_ #[65, 65] o.type #[v, .slice p r.length c]).run Tryz.prog w = .ok v' w' ∧ OwnVr w' base v' (l ++ r) ∧ Below base w w' := by
    cases p with
    | none =>
      rcases hin with h0 | ⟨b, off, e, _⟩
      · have hr0 : r = [] := List.length_eq_zero_iff.1 h0
        subst hr0
        refine ⟨v, w, run_app_none base 65 o.type 69 i0 5 c Tryz.underlying65 hi v l.length (flatVr l) hown, ?_, Below.refl _ _⟩
        rw [List.append_nil]; exact hown
      · cases e
    | some ad =>
      have hcs : ∀ j u, (flatVr r)[j]? = some u → w.cell? (ad.add j) = some u := by
        rcases hin with h0 | ⟨b, off, e, _, hc⟩
        · have hr0 : r = [] := List.length_eq_zero_iff.1 h0
          subst hr0
          intro j u hj
          simp [flatVr] at hj
        · injection e with e
          subst e
          exact InVr.cellsOf hc
      obtain ⟨v', w', hr, h2, h3, h4, h5⟩ := run_append_own_at (P := Tryz.prog) w base 65 o.type 69 i0 (.agg #[.int .i64 0, .bool false, .int .i64 0, .int .i64 0, .string em]) 5 48 Tryz.underlying65 hi hz0 hz1 hz2 rfl (by decide) v l.length (flatVr l) hown ad r.length c (flatVr r) (flatVr_len r) hcs (flatVr_one r) (by unfold maxLen; omega) (by omega) hbase
      refine ⟨v', w', hr, ?_, (Below.refl _ _).grown h3 hbase (fun b hb => (hown.lt b hb).1)⟩
      unfold OwnVr
      rw [flatVr_app, List.length_append]; exact h2
  obtain ⟨v', w', hr, h2, h3⟩ := hrun
  unfold Oper.wp execOp
  simp only [ho, resolve, invoke, builtin, Sem.run_bind, Sem.run_pure, Result.andThen_ok, List.map_toArray, List.map_cons, List.map_nil, hs, hx, hr]
  exact hK2 _ _ (hK v' w' h2 h3)

set_option maxRecDepth 4000 in
set_option maxHeartbeats 2000000 in
theorem left_any (cur : Ver) (r : List Ver) (p : Option Addr) (c : Nat) (w : World) (hin : InVr w p r) (hl : r.length ≤ 1000) :
    Calls Tryz.prog 40 #[.agg #[.int .i64 cur.tm, .bool cur.gone, .int .i64 cur.doc.k, .int .i64 cur.doc.n, .string cur.doc.t, .slice p r.length c]] w fun e w' => (∃ p' c', e = .returned (.slice p' (leftT cur r).length c') ∧ InVr w' p' (leftT cur r)) ∧ Below w.heap.size w w' := by
  have hbA : Below w.heap.size w (w.alloc (.cells #[.int .i64 cur.tm, .bool cur.gone, .int .i64 cur.doc.k, .int .i64 cur.doc.n, .string cur.doc.t, .slice p r.length c] 71)) := (Below.refl _ _).alloc (Nat.le_refl _) _
  have HI : Hid (InVr _ _ _) := hin.step hbA
  clear hin
  cases hg : cur.gone with
  | true =>
    have HL : Hid (leftT cur r = r) := by show leftT cur r = r; unfold leftT; rw [hg, if_pos rfl]
    rw [hg] at HI hbA
    go_enter Tryz.func40, Tryz.ntmps40
    go_wp2_with fail
    go_ret
    exact ⟨⟨p, c, by rw [HL.out]; try rfl, by rw [HL.out]; exact HI.out⟩, hbA⟩
  | false =>
    have HL : Hid (leftT cur r = [cur] ++ r) := by show leftT cur r = _; unfold leftT; rw [hg, if_neg (by simp)]; rfl
    have HG : Hid (cur.gone = false) := hg
    rw [hg] at HI hbA
    clear hg
    go_enter Tryz.func40, Tryz.ntmps40
    go_wp2_with (at_builtin; refine wpList_appVr rfl (.tmp 10) (.tmp 12) rfl (w.heap.size + 1) (.slice (some ⟨w.heap.size + 1, 0, none⟩) 1 1) [cur] r p c rfl ?c1 rfl ?c2 (by simp) hl (by simp) ?_)
    case c1 =>
      have h := World.ownsRow_lit (base := w.heap.size + 1) (e := 69) (size := 5) (w.alloc (.cells #[.int .i64 cur.tm, .bool false, .int .i64 cur.doc.k, .int .i64 cur.doc.n, .string cur.doc.t, .slice p r.length c] 71)) #[.int .i64 cur.tm, .bool false, .int .i64 cur.doc.k, .int .i64 cur.doc.n, .string cur.doc.t] 1 (by simp) (by unfold maxLen; omega) rfl
      unfold OwnVr flatVr
      simp only [List.flatMap_cons, List.flatMap_nil, List.append_nil, List.length_cons, List.length_nil]
      unfold rowVr
      rw [HG.out]
      simpa using h
    case c2 => exact HI.out.step ((Below.refl _ _).alloc (Nat.le_refl _) _)
    intro v' w' hO hB
    obtain ⟨p', c', hv, hin'⟩ := hO.inVr
    subst hv
    have HO : Hid (InVr _ _ _) := hin'
    have hB' : Below w.heap.size w w' := (show Below w.heap.size w _ by (repeat (first | (with_reducible exact Below.refl _ _) | (with_reducible assumption) | (with_reducible apply below_drewN) | (with_reducible apply Below.drew) | ((with_reducible refine Below.setCell ?_ ?_ _); rotate_left; focus (first | (simp; done) | (simp; omega) | omega)) | ((with_reducible refine Below.alloc ?_ ?_ _); rotate_left; focus (first | (simp; done) | (simp; omega) | omega))))).trans (hB.mono (by omega))
    clear hB hO hin'
    go_wp2_with fail
    go_ret
    exact ⟨⟨p', c', by rw [HL.out]; try rfl, by rw [HL.out]; exact HO.out⟩, hB'⟩

end Go.Proofs.YtncpijfbbgipaaaGreatDoor.Co

/- Tracks and what is left of chains, and from where the rows come: what the program answers. -/
namespace Go.Proofs.YtncpijfbbgipaaaGreatDoor.Co
open Go.RowKit Tr
set_option linter.unusedVariables false

/-- A row lies in the block of another. -/
def From (p p' : Option Addr) : Prop := ∀ b o, p' = some ⟨b, o, none⟩ → ∃ o0, p = some ⟨b, o0, none⟩
theorem From.refl (p : Option Addr) : From p p := fun b o e => ⟨o, e⟩
set_option maxRecDepth 4000 in
set_option maxHeartbeats 1000000 in
theorem trackAt_from (id time : Int) (p : Option Addr) (cap : Nat) (l : List Ver) (w : World) (hin : InVr w p l) (hl : l.length ≤ 1048576) (hcap : l.length ≤ cap) :
    Calls Tryz.prog 39 #[.agg #[.int .i64 id, .slice p l.length cap], .int .i64 time] w fun e w' => (∃ p' c', e = .returned (.agg #[.int .i64 (trP time l).1.tm, .bool (trP time l).1.gone, .int .i64 (trP time l).1.doc.k, .int .i64 (trP time l).1.doc.n, .string (trP time l).1.doc.t, .slice p' (trP time l).2.length c']) ∧ InVr w p' (trP time l).2 ∧ (trP time l).2.length ≤ c' ∧ From p p') ∧ Below w.heap.size w w' := by
  obtain ⟨R, hR⟩ : ∃ R, R = trP time l := ⟨_, rfl⟩
  rw [← hR]
  have HR : Hid (R = trk time zG l) := hR
  have HI : Hid (InVr _ _ _) := hin
  clear hR hin
  go_enter Tryz.func39, Tryz.ntmps39
  go_wp2_with fail
  have K0 : TrB2 w (((w.alloc (.cells #[.int .i64 id, .slice p l.length cap] 67)).alloc (.cells #[.int .i64 0, .bool false, .int .i64 0, .int .i64 0, .string em, .slice none 0 0] 71)).alloc (.cells #[.int .i64 0, .bool true, .int .i64 0, .int .i64 0, .string em, .slice p l.length cap] 71)) zG (.slice p l.length cap) := by
    refine ⟨by (repeat (first | (with_reducible exact Below.refl _ _) | (with_reducible assumption) | (with_reducible apply below_drewN) | (with_reducible apply Below.drew) | ((with_reducible refine Below.setCell ?_ ?_ _); rotate_left; focus (first | (simp; done) | (simp; omega) | omega)) | ((with_reducible refine Below.alloc ?_ ?_ _); rotate_left; focus (first | (simp; done) | (simp; omega) | omega)))), ?_, ?_⟩
    · rw [heap_alloc_old _ _ (by simp)]
      have := heap_alloc_new (w.alloc (.cells #[.int .i64 id, .slice p l.length cap] 67)) (.cells #[.int .i64 0, .bool false, .int .i64 0, .int .i64 0, .string em, .slice none 0 0] 71)
      rw [heap_size_alloc] at this; exact this
    · have := heap_alloc_new ((w.alloc (.cells #[.int .i64 id, .slice p l.length cap] 67)).alloc (.cells #[.int .i64 0, .bool false, .int .i64 0, .int .i64 0, .string em, .slice none 0 0] 71)) (.cells #[.int .i64 0, .bool true, .int .i64 0, .int .i64 0, .string em, .slice p l.length cap] 71)
      rw [heap_size_alloc, heap_size_alloc] at this; exact this
  generalize (((w.alloc (.cells #[.int .i64 id, .slice p l.length cap] 67)).alloc (.cells #[.int .i64 0, .bool false, .int .i64 0, .int .i64 0, .string em, .slice none 0 0] 71)).alloc (.cells #[.int .i64 0, .bool true, .int .i64 0, .int .i64 0, .string em, .slice p l.length cap] 71)) = W0 at K0 ⊢
  go_loopw [13] (fun u wr => ∃ (cur : Ver) (r : List Ver) (p' : Option Addr) (c' : Nat), R = trk time cur r ∧ TrB2 w wr cur (.slice p' r.length c') ∧ InVr w p' r ∧ r.length ≤ c' ∧ r.length ≤ 1048576 ∧ Hid (From p p')) (fun _ wr => lenOf (wr.cell? ⟨w.heap.size + 2, 5, none⟩))
  case atStart => exact ⟨zG, l, p, cap, HR.out, K0, HI.out, hcap, hl, From.refl p⟩
  case round =>
    obtain ⟨cur, r, p', c', hall, K, hin, hc, hrl, HFR⟩ := hrel
    obtain ⟨t0, t1, t2, t3, t4, t5⟩ := six K.tb
    have hs := fun o => soft K.tb o
    clear K0 HI HR
    cases r with
    | nil =>
      have HF : Hid (R = (cur, [])) := hall
      have hbw := K.bel
      obtain ⟨q0, q1, q2, q3, q4, q5⟩ := six K.rb
      have hq := fun o => soft K.rb o
      clear hall hin hc
      simp only [List.length_nil] at t5
      go_wp2_with fail
      refine bodyPost_ret (v := .agg #[.int .i64 cur.tm, .bool cur.gone, .int .i64 cur.doc.k, .int .i64 cur.doc.n, .string cur.doc.t, .slice p' 0 c']) (by simp [results, Tryz.results39, go_sem, *]) rfl ⟨⟨p', c', by rw [HF.out]; rfl, by rw [HF.out]; exact .inl rfl, by rw [HF.out]; exact Nat.zero_le _, HFR.out⟩, ?_⟩
      (repeat (first | (with_reducible exact Below.refl _ _) | (with_reducible assumption) | (with_reducible apply below_drewN) | (with_reducible apply Below.drew) | ((with_reducible refine Below.setCell ?_ ?_ _); rotate_left; focus (first | (simp; done) | (simp; omega) | omega)) | ((with_reducible refine Below.alloc ?_ ?_ _); rotate_left; focus (first | (simp; done) | (simp; omega) | omega))))
    | cons v r' =>
      rcases hin.step K.bel with h0 | ⟨b, off, rfl, hbl, hcell⟩
      · simp at h0
      obtain ⟨x0, x1, x2, x3, x4⟩ := hcell 0 (by simp)
      simp only [List.getElem_cons_zero, Nat.zero_mul, Nat.add_zero] at x0 x1 x2 x3 x4
      have hlp : (0 : Int) < ((v :: r').length : Int) := by simp
      have hlr : (v :: r').length = r'.length + 1 := rfl
      by_cases hle : v.tm ≤ time
      · rw [trk_yes time cur v r' hle] at hall
        have HA : Hid (R = trk time v r') := hall
        have hbw := K.bel
        clear hall hcell
        go_wp2_with fail
        go_region
        have hin2 : InVr w (if c' = 1 then some ⟨b, off, none⟩ else some ⟨b, off + 5, none⟩) r' := by
          have hc3 : r'.length + 1 ≤ c' := hc
          by_cases h1 : c' = 1
          · rw [if_pos h1]; exact .inl (by omega)
          · rw [if_neg h1]; exact InVr.tail hin
        have HF2 : Hid (From p (if c' = 1 then some ⟨b, off, none⟩ else some ⟨b, off + 5, none⟩)) := by
          show From p _
          intro b' o' e
          by_cases h1 : c' = 1
          · rw [if_pos h1] at e; injection e with e; injection e with e1; subst e1; exact HFR.out _ off rfl
          · rw [if_neg h1] at e; injection e with e; injection e with e1; subst e1; exact HFR.out _ off rfl
        have hc3 : r'.length ≤ c' - 1 := by have : r'.length + 1 ≤ c' := hc; omega
        have hl3 : r'.length ≤ 1048576 := by have : r'.length + 1 ≤ 1048576 := hrl; omega
        have K2 := (K.put v (.slice (if c' = 1 then some ⟨b, off, none⟩ else some ⟨b, off + 5, none⟩) r'.length (c' - 1))).drew
        go_wp2_with fail
        go_roundw
        case rel => exact ⟨v, r', _, c' - 1, HA.out, K2, hin2, hc3, hl3, HF2⟩
        case measure =>
          have e1 := (six K2.tb).2.2.2.2.2
          show lenOf (World.cell? _ ⟨w.heap.size + 2, 5, none⟩) < _
          rw [t5]
          refine Nat.lt_of_le_of_lt (Nat.le_of_eq (congrArg lenOf e1)) ?_
          show r'.length < (v :: r').length
          simp
      · rw [trk_no time cur v r' hle] at hall
        have HF : Hid (R = (cur, v :: r')) := hall
        have hbw := K.bel
        obtain ⟨q0, q1, q2, q3, q4, q5⟩ := six K.rb
        have hq := fun o => soft K.rb o
        have HIN : Hid (InVr _ _ _) := hin
        have hc2 : (v :: r').length ≤ c' := hc
        clear hall hcell hin
        obtain ⟨N, hN⟩ : ∃ N, N = (v :: r').length := ⟨_, rfl⟩
        rw [← hN] at t5 hlp hc2
        go_wp2_with fail
        refine bodyPost_ret (v := .agg #[.int .i64 cur.tm, .bool cur.gone, .int .i64 cur.doc.k, .int .i64 cur.doc.n, .string cur.doc.t, .slice (some ⟨b, off, none⟩) N c']) (by simp [results, Tryz.results39, go_sem, *]) rfl ⟨⟨_, c', by rw [HF.out, hN], by rw [HF.out]; exact HIN.out, by rw [HF.out]; exact hc, HFR.out⟩, ?_⟩
        (repeat (first | (with_reducible exact Below.refl _ _) | (with_reducible assumption) | (with_reducible apply below_drewN) | (with_reducible apply Below.drew) | ((with_reducible refine Below.setCell ?_ ?_ _); rotate_left; focus (first | (simp; done) | (simp; omega) | omega)) | ((with_reducible refine Below.alloc ?_ ?_ _); rotate_left; focus (first | (simp; done) | (simp; omega) | omega))))
set_option maxRecDepth 4000 in
set_option maxHeartbeats 2000000 in
theorem left_from (cur : Ver) (r : List Ver) (p : Option Addr) (c : Nat) (w : World) (hin : InVr w p r) (hl : r.length ≤ 1000) :
    Calls Tryz.prog 40 #[.agg #[.int .i64 cur.tm, .bool cur.gone, .int .i64 cur.doc.k, .int .i64 cur.doc.n, .string cur.doc.t, .slice p r.length c]] w fun e w' => (∃ p' c', e = .returned (.slice p' (leftT cur r).length c') ∧ InVr w' p' (leftT cur r) ∧ (p' = p ∨ ∀ b o, p' = some ⟨b, o, none⟩ → w.heap.size ≤ b)) ∧ Below w.heap.size w w' := by
  have hbA : Below w.heap.size w (w.alloc (.cells #[.int .i64 cur.tm, .bool cur.gone, .int .i64 cur.doc.k, .int .i64 cur.doc.n, .string cur.doc.t, .slice p r.length c] 71)) := (Below.refl _ _).alloc (Nat.le_refl _) _
  have HI : Hid (InVr _ _ _) := hin.step hbA
  clear hin
  cases hg : cur.gone with
  | true =>
    have HL : Hid (leftT cur r = r) := by show leftT cur r = r; unfold leftT; rw [hg, if_pos rfl]
    rw [hg] at HI hbA
    go_enter Tryz.func40, Tryz.ntmps40
    go_wp2_with fail
    go_ret
    exact ⟨⟨p, c, by rw [HL.out]; try rfl, by rw [HL.out]; exact HI.out, .inl rfl⟩, hbA⟩
  | false =>
    have HL : Hid (leftT cur r = [cur] ++ r) := by show leftT cur r = _; unfold leftT; rw [hg, if_neg (by simp)]; rfl
    have HG : Hid (cur.gone = false) := hg
    rw [hg] at HI hbA
    clear hg
    go_enter Tryz.func40, Tryz.ntmps40
    go_wp2_with (at_builtin; refine wpList_appVr rfl (.tmp 10) (.tmp 12) rfl (w.heap.size + 1) (.slice (some ⟨w.heap.size + 1, 0, none⟩) 1 1) [cur] r p c rfl ?c1 rfl ?c2 (by simp) hl (by simp) ?_)
    case c1 =>
      have h := World.ownsRow_lit (base := w.heap.size + 1) (e := 69) (size := 5) (w.alloc (.cells #[.int .i64 cur.tm, .bool false, .int .i64 cur.doc.k, .int .i64 cur.doc.n, .string cur.doc.t, .slice p r.length c] 71)) #[.int .i64 cur.tm, .bool false, .int .i64 cur.doc.k, .int .i64 cur.doc.n, .string cur.doc.t] 1 (by simp) (by unfold maxLen; omega) rfl
      unfold OwnVr flatVr
      simp only [List.flatMap_cons, List.flatMap_nil, List.append_nil, List.length_cons, List.length_nil]
      unfold rowVr
      rw [HG.out]
      simpa using h
    case c2 => exact HI.out.step ((Below.refl _ _).alloc (Nat.le_refl _) _)
    intro v' w' hO hB
    obtain ⟨p', c', hv, hin'⟩ := hO.inVr
    have HW : Hid (∀ b o, p' = some ⟨b, o, none⟩ → w.heap.size ≤ b) := by
      show ∀ b o, p' = some ⟨b, o, none⟩ → w.heap.size ≤ b
      intro b o e
      rcases OwnVr.form hO with ⟨e1, e2⟩ | ⟨g, cap, e1, e2, _⟩
      · simp at e2
      · rw [hv, e] at e1; injection e1 with e1; injection e1 with e1; injection e1 with e1; omega
    subst hv
    have HO : Hid (InVr _ _ _) := hin'
    have hB' : Below w.heap.size w w' := (show Below w.heap.size w _ by (repeat (first | (with_reducible exact Below.refl _ _) | (with_reducible assumption) | (with_reducible apply below_drewN) | (with_reducible apply Below.drew) | ((with_reducible refine Below.setCell ?_ ?_ _); rotate_left; focus (first | (simp; done) | (simp; omega) | omega)) | ((with_reducible refine Below.alloc ?_ ?_ _); rotate_left; focus (first | (simp; done) | (simp; omega) | omega))))).trans (hB.mono (by omega))
    clear hB hO hin'
    go_wp2_with fail
    go_ret
    exact ⟨⟨p', c', by rw [HL.out]; try rfl, by rw [HL.out]; exact HO.out, .inr HW.out⟩, hB'⟩
/-- Chains that are kept: a row of one's own, whose chains lie wherever they lie, but not in it. -/
structure KeptC (w : World) (base : Nat) (v : Value) (l : List Chn) (q : Nat → Option Addr) (c : Nat → Nat) (xs : List Value) : Prop where
  row : w.ownsRow base 67 2 v l.length xs
  at_ : ∀ i (h : i < l.length), xs[i * 2]? = some (.int .i64 l[i].id) ∧ xs[i * 2 + 1]? = some (.slice (q i) l[i].vs.length (c i))
  ins : ∀ i (h : i < l.length), InVr w (q i) l[i].vs
  off : ∀ i b o, i < l.length → q i = some ⟨b, o, none⟩ → some b ≠ v.ownBlock
theorem KeptC.nil (w : World) (base : Nat) (q : Nat → Option Addr) (c : Nat → Nat) : KeptC w base (.slice none 0 0) [] q c [] :=
  ⟨⟨rfl, .inl ⟨rfl, rfl⟩⟩, fun i h => absurd h (by simp), fun i h => absurd h (by simp), fun i b o h => absurd h (by simp)⟩
theorem KeptC.next {w w' : World} {base : Nat} {v : Value} {l : List Chn} {q : Nat → Option Addr} {c : Nat → Nat} {xs : List Value} (h : KeptC w base v l q c xs) (hb : Below w.heap.size w w') : KeptC w' base v l q c xs :=
  ⟨owns_below h.row hb, h.at_, fun i hi => (h.ins i hi).step hb, h.off⟩
theorem inVr_lt {w : World} {b o : Nat} {l : List Ver} (h : InVr w (some ⟨b, o, none⟩) l) (h0 : 0 < l.length) : b < w.heap.size := by
  rcases h with h | ⟨b', o', e, hl, _⟩
  · omega
  · injection e with e; injection e with e; subst e; exact hl
theorem KeptC.snoc {w w' : World} {base : Nat} {v v' : Value} {l : List Chn} {q : Nat → Option Addr} {c : Nat → Nat} {xs : List Value} {o : Obj} {en : Chn} {p : Option Addr} {cc : Nat}
    (h : KeptC w base v l q c xs) (hpos : ∀ e ∈ l, 0 < e.vs.length) (hp : 0 < en.vs.length) (hin : InVr w p en.vs) (hoff : ∀ b o, p = some ⟨b, o, none⟩ → some b ≠ v.ownBlock)
    (hr : w'.ownsRow base 67 2 v' (l.length + 1) (xs ++ [.int .i64 en.id, .slice p en.vs.length cc])) (hg : (w.alloc o).grownBy w' v.ownBlock) (hat : v'.ownBlock = v.ownBlock ∨ v'.ownBlock = some (w.alloc o).heap.size) :
    KeptC w' base v' (l ++ [en]) (fun i => if i = l.length then p else q i) (fun i => if i = l.length then cc else c i) (xs ++ [.int .i64 en.id, .slice p en.vs.length cc]) := by
  have hl : xs.length = l.length * 2 := h.row.1
  have hgo : ∀ (a : Option Addr) (r : List Ver), InVr w a r → (∀ b o, a = some ⟨b, o, none⟩ → some b ≠ v.ownBlock) → InVr w' a r := fun a r h1 h2 => (h1.step ((Below.refl _ _).alloc (Nat.le_refl _) o)).grown hg h2
  have hnew : ∀ (b : Nat), b < w.heap.size → some b ≠ v.ownBlock → some b ≠ v'.ownBlock := by
    intro b hb hne e
    rcases hat with e2 | e2
    · rw [e2] at e; exact hne e
    · rw [e2] at e; injection e with e; simp at e; omega
  refine ⟨by rw [List.length_append]; exact hr, ?_, ?_, ?_⟩
  · intro i hi
    have hi2 : i < l.length + 1 := by simpa using hi
    by_cases e : i = l.length
    · subst e
      simp only [if_pos, List.getElem_concat_length]
      rw [List.getElem?_append_right (by omega), List.getElem?_append_right (by omega), hl, Nat.sub_self, show l.length * 2 + 1 - l.length * 2 = 1 by omega]
      exact ⟨rfl, rfl⟩
    · have hi3 : i < l.length := by omega
      simp only [if_neg e]
      rw [List.getElem_append_left hi3, List.getElem?_append_left (by omega), List.getElem?_append_left (by omega)]
      exact h.at_ i hi3
  · intro i hi
    have hi2 : i < l.length + 1 := by simpa using hi
    by_cases e : i = l.length
    · subst e
      simp only [if_pos, List.getElem_concat_length]
      exact hgo _ _ hin hoff
    · have hi3 : i < l.length := by omega
      simp only [if_neg e]
      rw [List.getElem_append_left hi3]
      exact hgo _ _ (h.ins i hi3) (fun b o e => h.off i b o hi3 e)
  · intro i b o' hi hq
    have hi2 : i < l.length + 1 := by simpa using hi
    by_cases e : i = l.length
    · subst e
      simp only [if_pos] at hq
      subst hq
      exact hnew b (inVr_lt hin hp) (hoff b o' rfl)
    · have hi3 : i < l.length := by omega
      simp only [if_neg e] at hq
      have h1 := h.ins i hi3
      rw [hq] at h1
      exact hnew b (inVr_lt h1 (hpos _ (List.getElem_mem _))) (h.off i b o' hi3 hq)
theorem KeptC.inCh {w : World} {base : Nat} {v : Value} {l : List Chn} {q : Nat → Option Addr} {c : Nat → Nat} {xs : List Value} (h : KeptC w base v l q c xs) : ∃ p cap, v = .slice p l.length cap ∧ RowCh w p l := by
  have hlt := h.row.lt
  have hcell := fun j u hj => fun g cap (e : v = .slice (some ⟨g, 0, none⟩) l.length cap) => owns_cell (e ▸ h.row) j u hj
  rcases h.row.2 with ⟨hv, hn⟩ | ⟨g, cap, cur, hv, _⟩
  · exact ⟨none, 0, by rw [hv, hn], .inl (List.length_eq_zero_iff.1 hn)⟩
  · refine ⟨some ⟨g, 0, none⟩, cap, hv, .inr ⟨g, rfl, (hlt g (by rw [hv]; rfl)).2, fun i hi => ⟨hcell _ _ (h.at_ i hi).1 g cap hv, q i, c i, hcell _ _ (h.at_ i hi).2 g cap hv, h.ins i hi⟩⟩⟩

end Go.Proofs.YtncpijfbbgipaaaGreatDoor.Co

/- The program's Vacuum: what it answers. -/
namespace Go.Proofs.YtncpijfbbgipaaaGreatDoor.Co
open Go.RowKit Tr
set_option linter.unusedVariables false

def vacR (c : Col) (t : Int) : Option Col := if collB c = true then some ⟨c.name, vacB t c.chs, c.dfs⟩ else none
/-- What a collection of one's own, or none, answers. -/
structure VacA (R : Option Col) (w : World) (e : Ending) (w' : World) : Prop where
  bel : Below w.heap.size w w'
  bad : R = none → e = .returned (.tuple #[.agg #[.string em, .slice none 0 0, .slice none 0 0], .int .i64 1])
  ok : ∀ c, R = some c → ∃ v u mid, e = .returned (.tuple #[.agg #[.string c.name, v, u], .int .i64 0]) ∧ w.heap.size ≤ mid ∧ mid ≤ w'.heap.size ∧ OwnChH w' w.heap.size mid v c.chs ∧ OwnDfH w' mid w'.heap.size u c.dfs
theorem vacB_none (t : Int) (f : List Chn) (k : Nat) (h : k < f.length) (hg : (leftV t f[k].vs).length = 0) : vacB t (f.take (k + 1)) = vacB t (f.take k) := by
  unfold vacB; rw [List.take_succ_eq_append_getElem h, List.flatMap_append, List.flatMap_cons, List.flatMap_nil, List.append_nil, if_pos hg, List.append_nil]
theorem vacB_some (t : Int) (f : List Chn) (k : Nat) (h : k < f.length) (hg : ¬ (leftV t f[k].vs).length = 0) : vacB t (f.take (k + 1)) = vacB t (f.take k) ++ [⟨f[k].id, leftV t f[k].vs⟩] := by
  unfold vacB; rw [List.take_succ_eq_append_getElem h, List.flatMap_append, List.flatMap_cons, List.flatMap_nil, List.append_nil, if_neg hg]
theorem vacB_len (t : Int) : ∀ f : List Chn, (vacB t f).length ≤ f.length
  | [] => Nat.le_refl _
  | c :: f => by
    have ih := vacB_len t f
    unfold vacB at ih ⊢
    rw [List.flatMap_cons, List.length_append, List.length_cons]
    by_cases hg : (leftV t c.vs).length = 0
    · rw [if_pos hg, List.length_nil]; omega
    · rw [if_neg hg, List.length_cons, List.length_nil]; omega
theorem vacB_mem {t : Int} {f : List Chn} {x : Chn} (h : x ∈ vacB t f) : ∃ y ∈ f, x.id = y.id ∧ x.vs = leftV t y.vs ∧ 0 < x.vs.length := by
  unfold vacB at h
  obtain ⟨y, hy, hx⟩ := List.mem_flatMap.1 h
  by_cases hg : (leftV t y.vs).length = 0
  · rw [if_pos hg] at hx; simp at hx
  · rw [if_neg hg] at hx
    simp at hx
    subst hx
    exact ⟨y, hy, rfl, rfl, Nat.pos_of_ne_zero hg⟩
theorem leftV_len (t : Int) (l : List Ver) : (leftV t l).length ≤ l.length + 1 := by
  have := trk_len t l zG
  unfold leftV leftT trP
  split
  · omega
  · rw [List.length_cons]; omega
theorem leftV_sz {c : Col} (h : SzCol c) {x : Chn} (hx : x ∈ c.chs) (t : Int) : ∀ e ∈ leftV t x.vs, e.doc.t.size ≤ 1048576 := by
  intro e he
  have h1 := trP_sz h hx t
  unfold leftV leftT at he
  split at he
  · exact szVr_of h hx ((trk_mem t x.vs zG).2 e he)
  · rcases List.mem_cons.1 he with rfl | he
    · exact h1
    · exact szVr_of h hx ((trk_mem t x.vs zG).2 e he)
theorem defsB_all : ∀ (l pre : List Dfn), defsB pre l = true → ∀ d ∈ l, 1 ≤ d.ps.length ∧ d.ps.length ≤ 2
  | [], _, _ => fun d hd => by simp at hd
  | x :: r, pre, h => by
    unfold defsB at h
    simp only [Bool.and_eq_true] at h
    obtain ⟨h1, _, h3⟩ := h
    intro d hd
    rcases List.mem_cons.1 hd with rfl | hd
    · unfold defB at h1
      simp only [Bool.and_eq_true, decide_eq_true_eq] at h1
      exact h1.2.1
    · exact defsB_all r _ h3 d hd
theorem collB_defs {c : Col} (h : collB c = true) : c.dfs.length ≤ 3 ∧ ∀ d ∈ c.dfs, 1 ≤ d.ps.length ∧ d.ps.length ≤ 2 := by
  unfold collB dfsB at h
  simp only [Bool.and_eq_true, decide_eq_true_eq] at h
  exact ⟨h.2.1.1, defsB_all _ _ h.2.1.2⟩
theorem rowInDf {w : World} {p : Option Addr} {l : List Dfn} (h : RowDf w p l) : InDf w p l := by
  rcases h with rfl | ⟨g, rfl, h⟩
  · exact .inl rfl
  · refine .inr ⟨g, 0, rfl, h.lt, fun i hi => ?_⟩
    obtain ⟨h0, q, cap, h1, _, h2⟩ := h.cells i hi
    rw [Nat.zero_add]
    exact ⟨h0, q, cap, h1, rowInD h2⟩
theorem rowInCh {w : World} {p : Option Addr} {l : List Chn} (h : RowCh w p l) : InCh w p l := by
  rcases h with rfl | ⟨g, rfl, h⟩
  · exact .inl rfl
  · exact InVr.rowOf h
theorem OwnChH.slice {w : World} {lo hi : Nat} {v : Value} {f : List Chn} (h : OwnChH w lo hi v f) : ∃ p c, v = .slice p f.length c := by
  rcases h.own.form with ⟨e, e2⟩ | ⟨g, cap, e, _⟩
  · exact ⟨none, 0, by rw [e, e2]; rfl⟩
  · exact ⟨_, cap, e⟩
theorem OwnDfH.slice {w : World} {lo hi : Nat} {v : Value} {f : List Dfn} (h : OwnDfH w lo hi v f) : ∃ p c, v = .slice p f.length c := by
  rcases h.own.form with ⟨e, e2⟩ | ⟨g, cap, e, _⟩
  · exact ⟨none, 0, by rw [e, e2]; rfl⟩
  · exact ⟨_, cap, e⟩
theorem wpList_appCh {w : World} {ops : Array Oper} {rest : List Oper} {o : Oper} {a : Act} {Q : Exit → Act → World → Prop} (hgd : o.guard = none) (s x : Operand)
    (ho : o.op = .call { callee := .builtin .append, args := #[s, x], argTypes := #[32, 32] }) (base n : Nat) (v : Value) (xs : List Value)
    (hs : a.eval s = v) (hown : w.ownsRow base 67 2 v n xs) (ad : Addr) (m c : Nat) (news : List Value) (hx : a.eval x = .slice (some ad) m c) (hl : news.length = m * 2) (hnews : ∀ j u, news[j]? = some u → w.cell? (ad.add j) = some u) (h1 : ∀ u ∈ news, u.oneCell' = true)
    (hn : n ≤ 1000) (hm : m ≤ 1000) (hbase : base ≤ w.heap.size)
    (hK : ∀ v' w', w'.ownsRow base 67 2 v' (n + m) (xs ++ news) → w.grownBy w' v.ownBlock → (v'.ownBlock = v.ownBlock ∨ v'.ownBlock = some w.heap.size) → wpList Tryz.prog ops Q rest (a.put o.dst v') w') : wpList Tryz.prog ops Q (o :: rest) a w := by
  refine wpList_plain hgd fun K hK2 => ?_
  obtain ⟨i0, hi, hz0, hz1, hz2⟩ := info_parts infoCh
  obtain ⟨v', w', hr, h2, h3, h4, h5⟩ := run_append_own_at (P := Tryz.prog) w base 32 o.type 67 i0 (.agg #[.int .i64 0, .slice none 0 0]) 2 32 Tryz.underlying32 hi hz0 hz1 hz2 rfl (by decide) v n xs hown ad m c news hl hnews h1 (by unfold maxLen; omega) (by omega) hbase
  unfold Oper.wp execOp
  simp only [ho, resolve, invoke, builtin, Sem.run_bind, Sem.run_pure, Result.andThen_ok, List.map_toArray, List.map_cons, List.map_nil, hs, hx, hr]
  exact hK2 _ _ (hK v' w' h2 h3 h5)

end Go.Proofs.YtncpijfbbgipaaaGreatDoor.Co

/- The specification's Vacuum: what is left, and the walk. -/
namespace Go.Proofs.YtncpijfbbgipaaaGreatDoor.Co
open Go.RowKit Tr
set_option linter.unusedVariables false

/-- The place that the specification's search has come to. -/
structure InvV (t : Int) (l : List Ver) (n : Nat) : Prop where
  lt : n < l.length
  how : (n = 0 ∧ ¬ (l[n]'lt).tm ≤ t) ∨ ((l[n]'lt).tm ≤ t ∧ trk t zG l = trk t (l[n]'lt) (l.drop (n + 1)))
theorem InvV.start (t : Int) (l : List Ver) (h : 0 < l.length) : InvV t l 0 := by
  refine ⟨h, ?_⟩
  by_cases hc : l[0].tm ≤ t
  · refine .inr ⟨hc, ?_⟩
    cases l with
    | nil => simp at h
    | cons v r => rw [trk_yes t zG v r hc]; rfl
  · exact .inl ⟨rfl, hc⟩
theorem InvV.step {t : Int} {l : List Ver} {n : Nat} (h : InvV t l n) (hr : (h1 : n + 1 < l.length) → l[n].tm < l[n + 1].tm) (h1 : n + 1 < l.length) (hc : l[n + 1].tm ≤ t) : InvV t l (n + 1) := by
  have hlt := h.lt
  have hr' := hr h1
  refine ⟨h1, .inr ⟨hc, ?_⟩⟩
  rcases h.how with ⟨_, h3⟩ | ⟨_, h3⟩
  · omega
  · rw [h3, List.drop_eq_getElem_cons h1, trk_yes t _ _ _ hc]
theorem InvV.left {t : Int} {l : List Ver} {n : Nat} (h : InvV t l n) (he : (h1 : n + 1 < l.length) → ¬ l[n + 1].tm ≤ t) (hlt : n < l.length) :
    (l[n].gone = true → l[n].tm ≤ t → leftV t l = l.drop (n + 1)) ∧ ((l[n].gone = false ∨ ¬ l[n].tm ≤ t) → leftV t l = l.drop n) := by
  rcases h.how with ⟨h2, h3⟩ | ⟨h2, h3⟩
  · refine ⟨fun _ hc => absurd hc h3, fun _ => ?_⟩
    subst h2
    unfold leftV trP leftT
    cases l with
    | nil => simp at hlt
    | cons v r => rw [trk_no t zG v r h3]; rfl
  · have e : trk t zG l = (l[n], l.drop (n + 1)) := by
      rw [h3]
      by_cases h1 : n + 1 < l.length
      · rw [List.drop_eq_getElem_cons h1, trk_no t _ _ _ (he h1)]
      · rw [List.drop_eq_nil_of_le (by omega)]; rfl
    unfold leftV trP leftT
    rw [e]
    refine ⟨fun hg _ => by rw [if_pos hg], fun hg => ?_⟩
    rcases hg with hg | hg
    · show (if l[n].gone = true then _ else _) = _
      rw [if_neg (by rw [hg]; simp), List.drop_eq_getElem_cons hlt]
    · exact absurd h2 hg
/-- Rows that lie in blocks of one's own. -/
def LowQ (base : Nat) (q : Nat → Option Addr) (n : Nat) : Prop := ∀ i b o, i < n → q i = some ⟨b, o, none⟩ → base ≤ b
theorem LowQ.snoc {base n g o : Nat} {q : Nat → Option Addr} (h : LowQ base q n) (hg : base ≤ g) : LowQ base (fun i => if i = n then some ⟨g, o, none⟩ else q i) (n + 1) := by
  intro i b o' hi e
  by_cases hn : i = n
  · simp only [if_pos hn] at e
    injection e with e; injection e with e; omega
  · simp only [if_neg hn] at e
    exact h i b o' (by omega) e
theorem KeptC.set {w : World} {base g o : Nat} {v x : Value} {l : List Chn} {q : Nat → Option Addr} {c : Nat → Nat} {xs : List Value} (h : KeptC w base v l q c xs) (hq : LowQ base q l.length) (hg : g < base) : KeptC (w.setCell ⟨g, o, none⟩ x) base v l q c xs :=
  ⟨World.ownsRow.kept h.row grown_set (by
      cases hv : v.ownBlock with
      | none => exact .inl rfl
      | some b => exact .inr (fun e => by injection e with e; have := (h.row.lt b hv).1; omega)), h.at_, fun i hi => (h.ins i hi).grown grown_set (fun b o e e2 => by injection e2 with e2; have := hq i b o hi e; omega), h.off⟩
theorem KeptC.rowAt {w : World} {base n cap : Nat} {p : Option Addr} {l : List Chn} {q : Nat → Option Addr} {c : Nat → Nat} {xs : List Value} (h : KeptC w base (.slice p n cap) l q c xs) : RowCh w p l := by
  obtain ⟨p', cap', e, hr⟩ := h.inCh
  injection e with e
  rw [e]; exact hr
theorem versB_next2 (id : Int) : ∀ (l : List Ver) (last : Int), versB id last l = true → ∀ n (h : n + 1 < l.length), (l[n]'(by omega)).tm < l[n + 1].tm
  | [], _, _, n, h => by simp at h
  | [_], _, _, n, h => by simp at h
  | v :: u :: r, last, hv, 0, _ => by
    unfold versB at hv
    simp only [Bool.and_eq_true] at hv
    have h2 := hv.2.2.2
    unfold versB at h2
    simp only [Bool.and_eq_true, decide_eq_true_eq] at h2
    exact h2.1
  | v :: u :: r, last, hv, n + 1, h => by
    unfold versB at hv
    simp only [Bool.and_eq_true] at hv
    exact versB_next2 id (u :: r) v.tm hv.2.2.2 n (by simpa using h)
theorem wpList_appVm {w : World} {ops : Array Oper} {rest : List Oper} {o : Oper} {a : Act} {Q : Exit → Act → World → Prop} (hgd : o.guard = none) (s x : Operand)
    (ho : o.op = .call { callee := .builtin .append, args := #[s, x], argTypes := #[65, 65] }) (base : Nat) (v : Value) (l r : List Ver) (p : Option Addr) (c m : Nat) (hm' : r.length = m)
    (hs : a.eval s = v) (hown : OwnVr w base v l) (hx : a.eval x = .slice p m c) (hin : InVr w p r) (hn : l.length ≤ 1000) (hm : r.length ≤ 1000) (hbase : base ≤ w.heap.size)
    (hK : ∀ v' w', OwnVr w' base v' (l ++ r) → Below base w w' → wpList Tryz.prog ops Q rest (a.put o.dst v') w') : wpList Tryz.prog ops Q (o :: rest) a w := by
  subst hm'
  exact wpList_appVr hgd s x ho base v l r p c hs hown hx hin hn hm hbase hK
theorem InVr.dropN {w : World} {b off : Nat} {l : List Ver} (n : Nat) (h : InVr w (some ⟨b, off, none⟩) l) (hn : n < l.length) : InVr w (some ⟨b, off + n * 5, none⟩) (l.drop n) := by
  rcases h with h | ⟨b', off', e, hlt, hc⟩
  · omega
  · injection e with e
    injection e with e1 e2
    subst e1 e2
    refine .inr ⟨b, off + n * 5, rfl, hlt, fun i hi => ?_⟩
    have hi2 : n + i < l.length := by simp at hi; omega
    have := hc (n + i) hi2
    rw [List.getElem_drop]
    rw [show off + n * 5 + i * 5 = off + (n + i) * 5 by omega]
    exact this

set_option maxRecDepth 4000 in
set_option maxHeartbeats 4000000 in
theorem l08Vacuum_any (c : Col) (t : Int) (g1 g2 : Nat) (cp cq : Nat) (w : World) (hr : RdC w g1 g2 c) (h20 : c.chs.length ≤ 20) (hpt : ∀ x ∈ c.chs, topB x.id = true ∧ 1 ≤ x.vs.length ∧ x.vs.length ≤ 12 ∧ versB x.id 0 x.vs = true) :
    Calls Tryz.prog 38 #[.agg #[.string c.name, .slice (some ⟨g1, 0, none⟩) c.chs.length cp, .slice (some ⟨g2, 0, none⟩) c.dfs.length cq], .int .i64 t] w fun e w' => (∃ p ck, e = .returned (.agg #[.string c.name, .slice p (vacB t c.chs).length ck, .slice (some ⟨g2, 0, none⟩) c.dfs.length cq]) ∧ RowCh w' p (vacB t c.chs)) ∧ Below w.heap.size w w' := by
  have HR : Hid (RdC _ _ _ _) := hr
  have HPT : Hid _ := hpt
  have M0 := MkQ.start w (.string c.name) (.slice (some ⟨g1, 0, none⟩) c.chs.length cp) (.slice (some ⟨g2, 0, none⟩) c.dfs.length cq) (.string em) (.slice none 0 0) (.slice none 0 0) 35 35
  have hO0 := World.ownsRow_made (size := 2) (base := w.heap.size + 2) (e := 67) ((w.alloc (.cells #[.string c.name, .slice (some ⟨g1, 0, none⟩) c.chs.length cp, .slice (some ⟨g2, 0, none⟩) c.dfs.length cq] 35)).alloc (.cells #[.string em, .slice none 0 0, .slice none 0 0] 35)) #[] 0 (by simp) (by unfold maxLen; omega) rfl
  simp at hO0
  have M1 := M0.next ((Below.refl _ _).alloc (Nat.le_refl _) (.cells #[] 67))
  clear hr hpt M0
  go_enter Tryz.func38, Tryz.ntmps38
  go_wp2_with fail
  generalize ((w.alloc (.cells #[.string c.name, .slice (some ⟨g1, 0, none⟩) c.chs.length cp, .slice (some ⟨g2, 0, none⟩) c.dfs.length cq] 35)).alloc (.cells #[.string em, .slice none 0 0, .slice none 0 0] 35)).alloc (.cells #[] 67) = W0 at M1 hO0 ⊢
  go_loopw [5, 6] (fun u i wr => ∃ (k : Nat) (qf : Nat → Option Addr) (cf : Nat → Nat) (xs : List Value), k ≤ c.chs.length ∧ i = .int .i64 k ∧ MkQ w wr (.string c.name) (.slice (some ⟨g1, 0, none⟩) c.chs.length cp) (.slice (some ⟨g2, 0, none⟩) c.dfs.length cq) ∧ KeptC wr (w.heap.size + 2) u (vacB t (c.chs.take k)) qf cf xs ∧ Hid (LowQ (w.heap.size + 2) qf (vacB t (c.chs.take k)).length)) (fun _ i _ => c.chs.length - (intOf i).toNat)
  case atStart => exact ⟨0, fun _ => none, fun _ => 0, [], Nat.zero_le _, rfl, M1, ⟨hO0, fun i h => absurd h (by simp [vacB]), fun i h => absurd h (by simp [vacB]), fun i b o h => absurd h (by simp [vacB])⟩, fun i b o h => absurd h (by simp [vacB])⟩
  case round =>
    obtain ⟨k, qf, cf, xs, hk, rfl, M, hKC, HLQ⟩ := hrel
    have HKC : Hid (KeptC _ _ _ _ _ _ _) := hKC
    have HM : Hid (MkQ _ _ _ _ _) := M
    have hz := M.lt
    have hbel := M.bel
    have n1 := M.c1
    clear hKC M1 hO0
    by_cases hlt : k < c.chs.length
    · obtain ⟨x0', pv, cv, x1', hcv, hT⟩ := HR.out.ch.cells k hlt
      have hgl := Nat.lt_of_lt_of_le HR.out.ch.lt hbel.size
      have x0 := (hbel.cell HR.out.ch.lt).trans x0'
      have x1 := (hbel.cell HR.out.ch.lt).trans x1'
      have hlt2 : (k : Int) < (c.chs.length : Int) := by omega
      have hv1 := (HPT.out c.chs[k] (List.getElem_mem _)).2.1
      have hvl := (HPT.out c.chs[k] (List.getElem_mem _)).2.2.1
      have hrs := versB_next2 _ _ _ (HPT.out c.chs[k] (List.getElem_mem _)).2.2.2
      have HNO : Hid ((leftV t c.chs[k].vs).length = 0 → vacB t (c.chs.take (k + 1)) = vacB t (c.chs.take k)) := fun e => vacB_none t c.chs k hlt e
      have HSO : Hid (¬ (leftV t c.chs[k].vs).length = 0 → vacB t (c.chs.take (k + 1)) = vacB t (c.chs.take k) ++ [⟨c.chs[k].id, leftV t c.chs[k].vs⟩]) := fun e => vacB_some t c.chs k hlt e
      have hll := vacB_len t (c.chs.take k)
      rw [List.length_take] at hll
      have HPO : Hid (∀ e ∈ vacB t (c.chs.take k), 0 < e.vs.length) := fun e he => (vacB_mem he).choose_spec.2.2.2
      obtain ⟨x, hx⟩ : ∃ x, x = c.chs[k] := ⟨_, rfl⟩
      rw [← hx] at x0 x1 hcv hT hv1 hvl HNO HSO
      have HRS : Hid (∀ n (h : n + 1 < x.vs.length), (x.vs[n]'(by omega)).tm < x.vs[n + 1].tm) := by
        show ∀ n (h : n + 1 < x.vs.length), (x.vs[n]'(by omega)).tm < x.vs[n + 1].tm
        rw [hx]; exact hrs
      rcases hT.step hbel with h0 | ⟨b, off, rfl, hbl, hcell⟩
      · omega
      have HCE : Hid _ := hcell
      have hvp : (0 : Int) < ((x.vs.length : Nat) : Int) := by omega
      clear hx hT hcell x0' x1' hrs
      go_wp2_with fail
      obtain ⟨VK, hVK⟩ : ∃ VK, VK = vacB t (c.chs.take k) := ⟨_, rfl⟩
      rw [← hVK] at HNO HSO HKC hll HPO HLQ
      clear hVK
      go_loopw [8] (fun i wq => ∃ n : Nat, i = .int .i64 n ∧ wq = wr ∧ InvV t x.vs n) (fun i _ => x.vs.length - (intOf i).toNat)
      case atStart => exact ⟨0, rfl, rfl, InvV.start t x.vs (by omega)⟩
      case round =>
        obtain ⟨n, rfl, rfl, hI⟩ := hrel
        have hnl := hI.lt
        have HI : Hid (InvV _ _ _) := hI
        clear hI
        by_cases hn1 : n + 1 < x.vs.length
        · have hn1' : ((n : Int) + 1) < ((x.vs.length : Nat) : Int) := by omega
          obtain ⟨y0, y1, y2, y3, y4⟩ := HCE.out (n + 1) hn1
          by_cases hle : x.vs[n + 1].tm ≤ t
          · have HI2 : Hid (InvV t x.vs (n + 1)) := HI.out.step (fun h => HRS.out n h) hn1 hle
            go_wp2_with fail
            go_roundw
            case rel => exact ⟨n + 1, by go_num, trivial, HI2.out⟩
            case measure => simp [intOf]; omega
          · have HE : Hid ((h1 : n + 1 < x.vs.length) → ¬ x.vs[n + 1].tm ≤ t) := fun _ => hle
            have hlf := HI.out.left HE.out hnl
            have HLF : Hid (_ ∧ _) := hlf
            have hcn : n < cv := by omega
            have hcn2 : ¬ cv = n := by omega
            have hcn3 : ¬ cv - n = 0 := by omega
            have hdl : (x.vs.drop n).length = x.vs.length - n := List.length_drop
            have hbV : Below wr.heap.size wr (wr.alloc (.cells #[] 69)) := (Below.refl _ _).alloc (Nat.le_refl _) _
            have HV0 : Hid (OwnVr (wr.alloc (.cells #[] 69)) wr.heap.size (.slice (some ⟨wr.heap.size, 0, none⟩) 0 0) []) := World.ownsRow_made (size := 5) (base := wr.heap.size) (e := 69) wr #[] 0 (Nat.le_refl _) (by unfold maxLen; omega) rfl
            have HIN : Hid (InVr (wr.alloc (.cells #[] 69)) (some ⟨b, off + n * 5, none⟩) (x.vs.drop n)) := (InVr.dropN n (.inr ⟨b, off, rfl, hbl, HCE.out⟩) hnl).step hbV
            clear hlf HE HI
            go_wp2_with (at_builtin; refine wpList_appVm rfl (.tmp 41) (.tmp 44) rfl wr.heap.size (.slice (some ⟨wr.heap.size, 0, none⟩) 0 0) [] (x.vs.drop n) (some ⟨b, off + n * 5, none⟩) (cv - n) (x.vs.length - n) hdl rfl HV0.out rfl HIN.out (by simp) (by omega) (by simp) ?_)
            intro v5 w5 hO5 hB5
            obtain ⟨gK, cw, hv5, hgK, hgK2, hcw, _⟩ := rowForm hO5 (by omega)
            subst hv5
            have hin5 := (OwnVr.inVr hO5)
            obtain ⟨p5, c5, e5, hin5⟩ := hin5
            injection e5 with e5 e6 e7
            subst e5
            have HI5 : Hid (InVr w5 (some ⟨gK, 0, none⟩) (x.vs.drop n)) := hin5
            have hcell5 := hin5
            rcases hcell5 with h0 | ⟨gK', off', e, _, hc5⟩
            · omega
            injection e with e
            injection e with e1 e2
            subst e1 e2
            obtain ⟨a0, a1, _, _, _⟩ := hc5 0 (by omega)
            simp only [Nat.zero_mul, Nat.add_zero, Nat.zero_add, List.getElem_drop] at a0 a1
            have BW5 : Below wr.heap.size wr w5 := hbV.trans (hB5.mono (Nat.le_refl _))
            have HM3 : Hid (MkQ _ _ _ _ _) := HM.out.next BW5
            have HK3 : Hid (KeptC _ _ _ _ _ _ _) := HKC.out.next BW5
            have hz5 := HM3.out.lt
            have n15 := HM3.out.c1
            have x05 := (BW5.cell hgl).trans x0
            have hgl5 := Nat.lt_of_lt_of_le hgl BW5.size
            rw [hdl] at hcw
            clear hO5 hB5 hin5 hc5 hbV HV0 HIN e6 e7
            generalize hen : x.vs[n] = en at a0 a1 HLF
            clear hen
            by_cases hgo : en.gone = true
            · rw [hgo] at a1
              by_cases hle2 : en.tm ≤ t
              · have hLE := HLF.out.1 hgo hle2
                have HLE : Hid (leftV t x.vs = x.vs.drop (n + 1)) := hLE
                have hdl1 : (x.vs.drop (n + 1)).length = x.vs.length - n - 1 := by rw [List.length_drop]; omega
                clear hLE HLF
                by_cases hL0 : x.vs.length - n = 1
                · exfalso; omega
                · have hcw1 : ¬ cw = 1 := by omega
                  have hcw2 : ¬ cw - 1 = 0 := by omega
                  have hL1 : (0 : Int) < ((x.vs.length - n - 1 : Nat) : Int) := by omega
                  have hL2 : 0 < x.vs.length - n - 1 := by omega
                  have HI6 : Hid (InVr w5 (some ⟨gK, 0 + 5, none⟩) (x.vs.drop (n + 1))) := by
                    have h := HI5.out
                    rw [List.drop_eq_getElem_cons hnl] at h
                    exact InVr.tail h
                  have HNX : Hid (_ = _) := HSO.out (by rw [HLE.out]; rw [hdl1]; omega)
                  rw [HLE.out] at HNX
                  go_wp2_with (at_builtin; refine wpList_appCh rfl (.tmp 63) (.tmp 72) rfl (w.heap.size + 2) VK.length _ xs rfl (HK3.out.row.alloc _) ⟨w5.heap.size, 0, none⟩ 1 1 [.int .i64 x.id, .slice (some ⟨gK, 5, none⟩) (x.vs.length - n - 1) (cw - 1)] rfl rfl (two_newA _ _ _ _) (two_oneA _ rfl _ _ _) (by omega) (by omega) (by simp; omega) ?_)
                  intro v7 w7 o7 g7 at7
                  have B7 : Below (w.heap.size + 2) w5 w7 := Below.grown ((Below.refl _ w5).alloc (by omega) _) g7 (by simp; omega) (fun b hb => (HK3.out.row.lt b hb).1)
                  have HM7 : Hid (MkQ _ _ _ _ _) := HM3.out.step B7 (Nat.le_refl _)
                  have hK8 := HK3.out.snoc (en := ⟨x.id, x.vs.drop (n + 1)⟩) (p := some ⟨gK, 5, none⟩) (cc := cw - 1) HPO.out (by show 0 < (x.vs.drop (n + 1)).length; omega) (by simpa using HI6.out) (fun b' o' e e2 => by
                    injection e with e; injection e with e; subst e
                    have h2 := (HKC.out.row.lt _ e2.symm).2
                    omega) (by rw [hdl1]; exact o7) g7 (by simpa using at7)
                  have HK8 : Hid (KeptC _ _ _ _ _ _ _) := hK8
                  clear o7 g7 at7 hK8 B7
                  go_wp2_with fail
                  go_roundw
                  case rel => exact ⟨k + 1, _, _, _, by omega, by go_num, HM7.out, by rw [HNX.out]; exact HK8.out, (show LowQ _ _ _ by rw [HNX.out, List.length_append]; exact HLQ.out.snoc (by omega))⟩
                  case measure => simp [intOf]; omega
              · have HLE : Hid (leftV t x.vs = x.vs.drop n) := HLF.out.2 (.inr (by omega))
                have hL1 : (0 : Int) < ((x.vs.length - n : Nat) : Int) := by omega
                clear HLF
                have HNX : Hid (_ = _) := HSO.out (by rw [HLE.out]; rw [hdl]; omega)
                rw [HLE.out] at HNX
                go_wp2_with (at_builtin; refine wpList_appCh rfl (.tmp 63) (.tmp 72) rfl (w.heap.size + 2) VK.length _ xs rfl (HK3.out.row.alloc _) ⟨w5.heap.size, 0, none⟩ 1 1 [.int .i64 x.id, .slice (some ⟨gK, 0, none⟩) (x.vs.length - n) (cw)] rfl rfl (two_newA _ _ _ _) (two_oneA _ rfl _ _ _) (by omega) (by omega) (by simp; omega) ?_)
                intro v7 w7 o7 g7 at7
                have B7 : Below (w.heap.size + 2) w5 w7 := Below.grown ((Below.refl _ w5).alloc (by omega) _) g7 (by simp; omega) (fun b hb => (HK3.out.row.lt b hb).1)
                have HM7 : Hid (MkQ _ _ _ _ _) := HM3.out.step B7 (Nat.le_refl _)
                have hK8 := HK3.out.snoc (en := ⟨x.id, x.vs.drop n⟩) (p := some ⟨gK, 0, none⟩) (cc := cw) HPO.out (by show 0 < (x.vs.drop n).length; omega) HI5.out (fun b' o' e e2 => by
                  injection e with e; injection e with e; subst e
                  have h2 := (HKC.out.row.lt _ e2.symm).2
                  omega) (by rw [hdl]; exact o7) g7 (by simpa using at7)
                have HK8 : Hid (KeptC _ _ _ _ _ _ _) := hK8
                clear o7 g7 at7 hK8 B7
                go_wp2_with fail
                go_roundw
                case rel => exact ⟨k + 1, _, _, _, by omega, by go_num, HM7.out, by rw [HNX.out]; exact HK8.out, (show LowQ _ _ _ by rw [HNX.out, List.length_append]; exact HLQ.out.snoc (by omega))⟩
                case measure => simp [intOf]; omega
            · have hgo2 : en.gone = false := by simpa using hgo
              rw [hgo2] at a1
              have HLE : Hid (leftV t x.vs = x.vs.drop n) := HLF.out.2 (.inl hgo2)
              have hL1 : (0 : Int) < ((x.vs.length - n : Nat) : Int) := by omega
              clear HLF
              have HNX : Hid (_ = _) := HSO.out (by rw [HLE.out]; rw [hdl]; omega)
              rw [HLE.out] at HNX
              go_wp2_with (at_builtin; refine wpList_appCh rfl (.tmp 63) (.tmp 72) rfl (w.heap.size + 2) VK.length _ xs rfl (HK3.out.row.alloc _) ⟨w5.heap.size, 0, none⟩ 1 1 [.int .i64 x.id, .slice (some ⟨gK, 0, none⟩) (x.vs.length - n) (cw)] rfl rfl (two_newA _ _ _ _) (two_oneA _ rfl _ _ _) (by omega) (by omega) (by simp; omega) ?_)
              intro v7 w7 o7 g7 at7
              have B7 : Below (w.heap.size + 2) w5 w7 := Below.grown ((Below.refl _ w5).alloc (by omega) _) g7 (by simp; omega) (fun b hb => (HK3.out.row.lt b hb).1)
              have HM7 : Hid (MkQ _ _ _ _ _) := HM3.out.step B7 (Nat.le_refl _)
              have hK8 := HK3.out.snoc (en := ⟨x.id, x.vs.drop n⟩) (p := some ⟨gK, 0, none⟩) (cc := cw) HPO.out (by show 0 < (x.vs.drop n).length; omega) HI5.out (fun b' o' e e2 => by
                injection e with e; injection e with e; subst e
                have h2 := (HKC.out.row.lt _ e2.symm).2
                omega) (by rw [hdl]; exact o7) g7 (by simpa using at7)
              have HK8 : Hid (KeptC _ _ _ _ _ _ _) := hK8
              clear o7 g7 at7 hK8 B7
              go_wp2_with fail
              go_roundw
              case rel => exact ⟨k + 1, _, _, _, by omega, by go_num, HM7.out, by rw [HNX.out]; exact HK8.out, (show LowQ _ _ _ by rw [HNX.out, List.length_append]; exact HLQ.out.snoc (by omega))⟩
              case measure => simp [intOf]; omega
        · have hn1' : ¬ ((n : Int) + 1) < ((x.vs.length : Nat) : Int) := by omega
          have HE : Hid ((h1 : n + 1 < x.vs.length) → ¬ x.vs[n + 1].tm ≤ t) := fun h => absurd h hn1
          have hlf := HI.out.left HE.out hnl
          have HLF : Hid (_ ∧ _) := hlf
          have hcn : n < cv := by omega
          have hcn2 : ¬ cv = n := by omega
          have hcn3 : ¬ cv - n = 0 := by omega
          have hdl : (x.vs.drop n).length = x.vs.length - n := List.length_drop
          have hbV : Below wr.heap.size wr (wr.alloc (.cells #[] 69)) := (Below.refl _ _).alloc (Nat.le_refl _) _
          have HV0 : Hid (OwnVr (wr.alloc (.cells #[] 69)) wr.heap.size (.slice (some ⟨wr.heap.size, 0, none⟩) 0 0) []) := World.ownsRow_made (size := 5) (base := wr.heap.size) (e := 69) wr #[] 0 (Nat.le_refl _) (by unfold maxLen; omega) rfl
          have HIN : Hid (InVr (wr.alloc (.cells #[] 69)) (some ⟨b, off + n * 5, none⟩) (x.vs.drop n)) := (InVr.dropN n (.inr ⟨b, off, rfl, hbl, HCE.out⟩) hnl).step hbV
          clear hlf HE HI
          go_wp2_with (at_builtin; refine wpList_appVm rfl (.tmp 41) (.tmp 44) rfl wr.heap.size (.slice (some ⟨wr.heap.size, 0, none⟩) 0 0) [] (x.vs.drop n) (some ⟨b, off + n * 5, none⟩) (cv - n) (x.vs.length - n) hdl rfl HV0.out rfl HIN.out (by simp) (by omega) (by simp) ?_)
          intro v5 w5 hO5 hB5
          obtain ⟨gK, cw, hv5, hgK, hgK2, hcw, _⟩ := rowForm hO5 (by omega)
          subst hv5
          have hin5 := (OwnVr.inVr hO5)
          obtain ⟨p5, c5, e5, hin5⟩ := hin5
          injection e5 with e5 e6 e7
          subst e5
          have HI5 : Hid (InVr w5 (some ⟨gK, 0, none⟩) (x.vs.drop n)) := hin5
          have hcell5 := hin5
          rcases hcell5 with h0 | ⟨gK', off', e, _, hc5⟩
          · omega
          injection e with e
          injection e with e1 e2
          subst e1 e2
          obtain ⟨a0, a1, _, _, _⟩ := hc5 0 (by omega)
          simp only [Nat.zero_mul, Nat.add_zero, Nat.zero_add, List.getElem_drop] at a0 a1
          have BW5 : Below wr.heap.size wr w5 := hbV.trans (hB5.mono (Nat.le_refl _))
          have HM3 : Hid (MkQ _ _ _ _ _) := HM.out.next BW5
          have HK3 : Hid (KeptC _ _ _ _ _ _ _) := HKC.out.next BW5
          have hz5 := HM3.out.lt
          have n15 := HM3.out.c1
          have x05 := (BW5.cell hgl).trans x0
          have hgl5 := Nat.lt_of_lt_of_le hgl BW5.size
          rw [hdl] at hcw
          clear hO5 hB5 hin5 hc5 hbV HV0 HIN e6 e7
          generalize hen : x.vs[n] = en at a0 a1 HLF
          clear hen
          by_cases hgo : en.gone = true
          · rw [hgo] at a1
            by_cases hle2 : en.tm ≤ t
            · have hLE := HLF.out.1 hgo hle2
              have HLE : Hid (leftV t x.vs = x.vs.drop (n + 1)) := hLE
              have hdl1 : (x.vs.drop (n + 1)).length = x.vs.length - n - 1 := by rw [List.length_drop]; omega
              clear hLE HLF
              by_cases hL0 : x.vs.length - n = 1
              · have HNX : Hid (_ = _) := HNO.out (by rw [HLE.out, hdl1]; omega)
                have hL1 : ¬ (0 : Int) < ((x.vs.length - n - 1 : Nat) : Int) := by omega
                have hLp : 1 ≤ x.vs.length - n := by omega
                clear hL0
                go_wp2_with fail
                all_goals
                  go_roundw
                  case rel => exact ⟨k + 1, qf, cf, xs, by omega, by go_num, HM3.out, by rw [HNX.out]; exact HK3.out, by rw [HNX.out]; exact HLQ⟩
                  case measure => simp [intOf]; omega
              · exfalso; omega
            · have HLE : Hid (leftV t x.vs = x.vs.drop n) := HLF.out.2 (.inr (by omega))
              have hL1 : (0 : Int) < ((x.vs.length - n : Nat) : Int) := by omega
              clear HLF
              have HNX : Hid (_ = _) := HSO.out (by rw [HLE.out]; rw [hdl]; omega)
              rw [HLE.out] at HNX
              go_wp2_with (at_builtin; refine wpList_appCh rfl (.tmp 63) (.tmp 72) rfl (w.heap.size + 2) VK.length _ xs rfl (HK3.out.row.alloc _) ⟨w5.heap.size, 0, none⟩ 1 1 [.int .i64 x.id, .slice (some ⟨gK, 0, none⟩) (x.vs.length - n) (cw)] rfl rfl (two_newA _ _ _ _) (two_oneA _ rfl _ _ _) (by omega) (by omega) (by simp; omega) ?_)
              intro v7 w7 o7 g7 at7
              have B7 : Below (w.heap.size + 2) w5 w7 := Below.grown ((Below.refl _ w5).alloc (by omega) _) g7 (by simp; omega) (fun b hb => (HK3.out.row.lt b hb).1)
              have HM7 : Hid (MkQ _ _ _ _ _) := HM3.out.step B7 (Nat.le_refl _)
              have hK8 := HK3.out.snoc (en := ⟨x.id, x.vs.drop n⟩) (p := some ⟨gK, 0, none⟩) (cc := cw) HPO.out (by show 0 < (x.vs.drop n).length; omega) HI5.out (fun b' o' e e2 => by
                injection e with e; injection e with e; subst e
                have h2 := (HKC.out.row.lt _ e2.symm).2
                omega) (by rw [hdl]; exact o7) g7 (by simpa using at7)
              have HK8 : Hid (KeptC _ _ _ _ _ _ _) := hK8
              clear o7 g7 at7 hK8 B7
              go_wp2_with fail
              go_roundw
              case rel => exact ⟨k + 1, _, _, _, by omega, by go_num, HM7.out, by rw [HNX.out]; exact HK8.out, (show LowQ _ _ _ by rw [HNX.out, List.length_append]; exact HLQ.out.snoc (by omega))⟩
              case measure => simp [intOf]; omega
          · have hgo2 : en.gone = false := by simpa using hgo
            rw [hgo2] at a1
            have HLE : Hid (leftV t x.vs = x.vs.drop n) := HLF.out.2 (.inl hgo2)
            have hL1 : (0 : Int) < ((x.vs.length - n : Nat) : Int) := by omega
            clear HLF
            have HNX : Hid (_ = _) := HSO.out (by rw [HLE.out]; rw [hdl]; omega)
            rw [HLE.out] at HNX
            go_wp2_with (at_builtin; refine wpList_appCh rfl (.tmp 63) (.tmp 72) rfl (w.heap.size + 2) VK.length _ xs rfl (HK3.out.row.alloc _) ⟨w5.heap.size, 0, none⟩ 1 1 [.int .i64 x.id, .slice (some ⟨gK, 0, none⟩) (x.vs.length - n) (cw)] rfl rfl (two_newA _ _ _ _) (two_oneA _ rfl _ _ _) (by omega) (by omega) (by simp; omega) ?_)
            intro v7 w7 o7 g7 at7
            have B7 : Below (w.heap.size + 2) w5 w7 := Below.grown ((Below.refl _ w5).alloc (by omega) _) g7 (by simp; omega) (fun b hb => (HK3.out.row.lt b hb).1)
            have HM7 : Hid (MkQ _ _ _ _ _) := HM3.out.step B7 (Nat.le_refl _)
            have hK8 := HK3.out.snoc (en := ⟨x.id, x.vs.drop n⟩) (p := some ⟨gK, 0, none⟩) (cc := cw) HPO.out (by show 0 < (x.vs.drop n).length; omega) HI5.out (fun b' o' e e2 => by
              injection e with e; injection e with e; subst e
              have h2 := (HKC.out.row.lt _ e2.symm).2
              omega) (by rw [hdl]; exact o7) g7 (by simpa using at7)
            have HK8 : Hid (KeptC _ _ _ _ _ _ _) := hK8
            clear o7 g7 at7 hK8 B7
            go_wp2_with fail
            go_roundw
            case rel => exact ⟨k + 1, _, _, _, by omega, by go_num, HM7.out, by rw [HNX.out]; exact HK8.out, (show LowQ _ _ _ by rw [HNX.out, List.length_append]; exact HLQ.out.snoc (by omega))⟩
            case measure => simp [intOf]; omega
    · have hlt2 : ¬ (k : Int) < (c.chs.length : Int) := by omega
      have ht : c.chs.take k = c.chs := List.take_of_length_le (by omega)
      rw [ht] at HKC HLQ
      obtain ⟨pk, ck, rfl, hrow⟩ := HKC.out.inCh
      have HRW : Hid (RowCh _ _ _) := hrow
      obtain ⟨mb, ml, mc0, mc1, mc2, mz0, ⟨r0, mr0⟩, ⟨r1, mr1⟩, ⟨r2, mr2⟩, my0⟩ := M
      clear HM
      have hKs := ((((HKC.out.set (o := 1) (x := .slice pk (vacB t c.chs).length ck) HLQ.out (show w.heap.size < w.heap.size + 2 by omega)).set (o := 0) (x := .string c.name) HLQ.out (show w.heap.size + 1 < w.heap.size + 2 by omega)).set (o := 1) (x := .slice pk (vacB t c.chs).length ck) HLQ.out (show w.heap.size + 1 < w.heap.size + 2 by omega)).set (o := 2) (x := .slice (some ⟨g2, 0, none⟩) c.dfs.length cq) HLQ.out (show w.heap.size + 1 < w.heap.size + 2 by omega)).rowAt
      have HKS : Hid (RowCh _ _ _) := hKs
      clear hKs HKC HLQ hrow
      go_wp2_with fail
      refine bodyPost_ret (v := .agg #[.string c.name, .slice pk (vacB t c.chs).length ck, .slice (some ⟨g2, 0, none⟩) c.dfs.length cq]) (by simp [results, Tryz.results38, go_sem, *]) rfl ⟨⟨pk, ⟨ck, rfl⟩, HKS.out⟩, ?_⟩
      (repeat (first | (with_reducible exact Below.refl _ _) | (with_reducible assumption) | (with_reducible apply below_drewN) | (with_reducible apply Below.drew) | ((with_reducible refine Below.setCell ?_ ?_ _); rotate_left; focus (first | (simp; done) | (simp; omega) | omega)) | ((with_reducible refine Below.alloc ?_ ?_ _); rotate_left; focus (first | (simp; done) | (simp; omega) | omega))))

end Go.Proofs.YtncpijfbbgipaaaGreatDoor.Co

/- The program's Vacuum: its walk. -/
namespace Go.Proofs.YtncpijfbbgipaaaGreatDoor.Co
open Go.RowKit Tr
set_option linter.unusedVariables false

set_option maxRecDepth 4000 in
set_option maxHeartbeats 4000000 in
theorem vacuum_any (c : Col) (t : Int) (g1 g2 : Nat) (cp cq : Nat) (w : World) (hr : RdC w g1 g2 c) (hs : SzCol c) :
    Calls Tryz.prog 15 #[.agg #[.string c.name, .slice (some ⟨g1, 0, none⟩) c.chs.length cp, .slice (some ⟨g2, 0, none⟩) c.dfs.length cq], .int .i64 t] w fun e w' => VacA (vacR c t) w e w' := by
  have M0 := MkQ.start w (.string c.name) (.slice (some ⟨g1, 0, none⟩) c.chs.length cp) (.slice (some ⟨g2, 0, none⟩) c.dfs.length cq) (.string em) (.slice none 0 0) (.slice none 0 0) 35 35
  have HC : Hid (∀ W : World, RdC W g1 g2 c → Calls _ _ _ W _) := fun W hW => collOK_any c (some ⟨g1, 0, none⟩) (some ⟨g2, 0, none⟩) cp cq W hW.ch.inCh hW.df hs
  have HR : Hid (RdC _ _ _ _) := hr
  have HSZ : Hid (SzCol c) := hs
  clear hr hs
  have d0 := M0.c0
  have d1 := M0.c1
  have d2 := M0.c2
  cases hB : collB c
  · have HV : Hid (vacR c t = none) := by show vacR c t = none; unfold vacR; rw [hB, if_neg (by simp)]
    rw [hB] at HC
    clear hB
    go_enter Tryz.func15, Tryz.ntmps15
    go_wp2_with fail
    generalize (w.alloc (.cells #[.string c.name, .slice (some ⟨g1, 0, none⟩) c.chs.length cp, .slice (some ⟨g2, 0, none⟩) c.dfs.length cq] 35)).alloc (.cells #[.string em, .slice none 0 0, .slice none 0 0] 35) = W0 at M0 d0 d1 d2 ⊢
    refine (HC.out _ (HR.out.next M0.bel)).mono ?_
    rintro e w1 ⟨rfl, hb⟩
    obtain ⟨mb, ml, mc0, mc1, mc2, mz0, ⟨r0, mr0⟩, ⟨r1, mr1⟩, ⟨r2, mr2⟩, my0⟩ := M0.next hb
    clear hb M0 d0 d1 d2
    go_wp2_with fail
    refine bodyPost_ret (v := .tuple #[.agg #[.string em, .slice none 0 0, .slice none 0 0], .int .i64 1]) (by simp [results, Tryz.results15, go_sem, *]) rfl ⟨?_, fun _ => rfl, fun c' h => by rw [HV.out] at h; cases h⟩
    (repeat (first | (with_reducible exact Below.refl _ _) | (with_reducible assumption) | (with_reducible apply below_drewN) | (with_reducible apply Below.drew) | ((with_reducible refine Below.setCell ?_ ?_ _); rotate_left; focus (first | (simp; done) | (simp; omega) | omega)) | ((with_reducible refine Below.alloc ?_ ?_ _); rotate_left; focus (first | (simp; done) | (simp; omega) | omega))))
  · have HV : Hid (vacR c t = some ⟨c.name, vacB t c.chs, c.dfs⟩) := by show vacR c t = _; unfold vacR; rw [hB, if_pos rfl]
    have hpt := collB_parts hB
    have hdf := collB_defs hB
    have HDF : Hid (_ ∧ _) := hdf
    have h20 := hpt.2.2.2.1
    have HPT : Hid (∀ x ∈ c.chs, topB x.id = true ∧ 1 ≤ x.vs.length ∧ x.vs.length ≤ 12 ∧ versB x.id 0 x.vs = true) := hpt.2.2.2.2.2
    rw [hB] at HC
    clear hB hpt hdf
    go_enter Tryz.func15, Tryz.ntmps15
    go_wp2_with fail
    generalize (w.alloc (.cells #[.string c.name, .slice (some ⟨g1, 0, none⟩) c.chs.length cp, .slice (some ⟨g2, 0, none⟩) c.dfs.length cq] 35)).alloc (.cells #[.string em, .slice none 0 0, .slice none 0 0] 35) = W0 at M0 d0 d1 d2 ⊢
    refine (HC.out _ (HR.out.next M0.bel)).mono ?_
    rintro e w1 ⟨rfl, hb⟩
    have M1 := M0.next hb
    have n1 := M1.c1
    clear hb M0 d0 d1 d2 HC
    go_wp2_with fail
    clear n1
    go_loopw [6, 17] (fun u i wr => ∃ (k : Nat) (qf : Nat → Option Addr) (cf : Nat → Nat) (xs : List Value), k ≤ c.chs.length ∧ i = .int .i64 k ∧ MkQ w wr (.string c.name) (.slice (some ⟨g1, 0, none⟩) c.chs.length cp) (.slice (some ⟨g2, 0, none⟩) c.dfs.length cq) ∧ KeptC wr (w.heap.size + 2) u (vacB t (c.chs.take k)) qf cf xs) (fun _ i _ => c.chs.length - (intOf i).toNat)
    case atStart => exact ⟨0, fun _ => none, fun _ => 0, [], Nat.zero_le _, rfl, M1, KeptC.nil _ _ _ _⟩
    case round =>
      obtain ⟨k, qf, cf, xs, hk, rfl, M, hKC⟩ := hrel
      have HKC : Hid (KeptC _ _ _ _ _ _ _) := hKC
      have HM : Hid (MkQ _ _ _ _ _) := M
      have hz := M.lt
      have hbel := M.bel
      clear hKC M1
      by_cases hlt : k < c.chs.length
      · obtain ⟨x0', pv, cv, x1', hcv, hT⟩ := HR.out.ch.cells k hlt
        have hgl := Nat.lt_of_lt_of_le HR.out.ch.lt hbel.size
        have x0 := (hbel.cell HR.out.ch.lt).trans x0'
        have x1 := (hbel.cell HR.out.ch.lt).trans x1'
        have hlt2 : (k : Int) < (c.chs.length : Int) := by omega
        have hv1 := (HPT.out c.chs[k] (List.getElem_mem _)).2.1
        have hvl := (HPT.out c.chs[k] (List.getElem_mem _)).2.2.1
        have HNO : Hid ((leftV t c.chs[k].vs).length = 0 → vacB t (c.chs.take (k + 1)) = vacB t (c.chs.take k)) := fun e => vacB_none t c.chs k hlt e
        have HSO : Hid (¬ (leftV t c.chs[k].vs).length = 0 → vacB t (c.chs.take (k + 1)) = vacB t (c.chs.take k) ++ [⟨c.chs[k].id, leftV t c.chs[k].vs⟩]) := fun e => vacB_some t c.chs k hlt e
        have hll := vacB_len t (c.chs.take k)
        rw [List.length_take] at hll
        have HPO : Hid (∀ e ∈ vacB t (c.chs.take k), 0 < e.vs.length) := fun e he => (vacB_mem he).choose_spec.2.2.2
        obtain ⟨x, hx⟩ : ∃ x, x = c.chs[k] := ⟨_, rfl⟩
        rw [← hx] at x0 x1 hcv hT hv1 hvl HNO HSO
        have B0 := Box2.start wr (.int .i64 x.id) (.slice pv x.vs.length cv) 67
        have HTR : Hid (Calls _ _ _ _ _) := trackAt_from x.id t pv cv x.vs (wr.alloc (.cells #[.int .i64 x.id, .slice pv x.vs.length cv] 67)) ((hT.step hbel).step B0.bel) (by omega) hcv
        have hlen2 : (trP t x.vs).2.length ≤ 1000 := Nat.le_trans (trk_len t x.vs zG) (by omega)
        have HLV : Hid (leftT (trP t x.vs).1 (trP t x.vs).2 = leftV t x.vs) := rfl
        have HTT : Hid (InVr w pv x.vs) := hT
        obtain ⟨R1, hR1⟩ : ∃ R1, R1 = (trP t x.vs).1 := ⟨_, rfl⟩
        obtain ⟨R2, hR2⟩ : ∃ R2, R2 = (trP t x.vs).2 := ⟨_, rfl⟩
        obtain ⟨L, hL⟩ : ∃ L, L = leftV t x.vs := ⟨_, rfl⟩
        obtain ⟨VK, hVK⟩ : ∃ VK, VK = vacB t (c.chs.take k) := ⟨_, rfl⟩
        rw [← hR1, ← hR2] at HTR
        rw [← hR2] at hlen2
        rw [← hR1, ← hR2, ← hL] at HLV
        rw [← hL, ← hVK] at HNO HSO
        rw [← hVK] at HKC hll HPO
        have e0' := B0.c0
        have e1' := B0.c1
        have el' := B0.lt
        clear hx hR1 hR2 hL hVK hT hcv x0' x1'
        go_wp2_with fail
        generalize hWA : wr.alloc (.cells #[.int .i64 x.id, .slice pv x.vs.length cv] 67) = WA at HTR B0 e0' e1' el' ⊢
        clear hWA
        refine HTR.out.mono ?_
        rintro e w2 ⟨⟨p', c', rfl, hI, hc', hF⟩, hb2⟩
        have HF : Hid (From pv p') := hF
        have HI2 : Hid (InVr w2 p' R2) := hI.step hb2
        have f0 := (hb2.cell el').trans e0'
        have hz2 := Nat.lt_of_lt_of_le el' hb2.size
        have BW2 : Below wr.heap.size wr w2 := B0.bel.trans (hb2.mono B0.bel.size)
        clear hI hc' hF hb2 HTR e0' e1' B0
        go_wp2_with fail
        refine (left_from R1 R2 p' c' w2 HI2.out hlen2).mono ?_
        rintro e w3 ⟨⟨p3, c3, rfl, hI3, hor⟩, hb3⟩
        rw [HLV.out] at hI3 ⊢
        have HI3 : Hid (InVr w3 p3 L) := hI3
        have HOR : Hid (_ ∨ _) := hor
        have f03 := (hb3.cell hz2).trans f0
        have BW3 : Below wr.heap.size wr w3 := BW2.trans (hb3.mono BW2.size)
        have hz3 := Nat.lt_of_lt_of_le hz2 hb3.size
        have HM3 : Hid (MkQ _ _ _ _ _) := HM.out.next BW3
        have HK3 : Hid (KeptC _ _ _ _ _ _ _) := HKC.out.next BW3
        have hz3' := HM3.out.lt
        have hb23 := hb3.size
        have hw23 := BW2.size
        clear hI3 hor hb3 f0 HI2 HLV
        by_cases hL0 : L.length = 0
        · have HNX : Hid (_ = _) := HNO.out hL0
          have hnl : ¬ (0 : Int) < ((L.length : Nat) : Int) := by omega
          clear HNO HSO
          go_wp2_with fail
          go_roundw
          case rel => exact ⟨k + 1, qf, cf, xs, by omega, by go_num, HM3.out, by rw [HNX.out]; exact HK3.out⟩
          case measure => simp [intOf]; omega
        · have HNX : Hid (_ = _) := HSO.out hL0
          have hnl : (0 : Int) < ((L.length : Nat) : Int) := by omega
          clear HNO HSO
          go_wp2_with (at_builtin; refine wpList_appCh rfl (.tmp 28) (.tmp 33) rfl (w.heap.size + 2) VK.length _ xs rfl (HK3.out.row.alloc _) ⟨w3.heap.size, 0, none⟩ 1 1 [.int .i64 x.id, .slice p3 L.length c3] rfl rfl (two_newA _ _ _ _) (two_oneA _ rfl _ _ _) (by omega) (by omega) (by simp; omega) ?_)
          intro v' w7 o7 g7 at7
          have B7 : Below (w.heap.size + 2) w3 w7 := Below.grown ((Below.refl _ w3).alloc (by omega) _) g7 (by simp; omega) (fun b hb => (HK3.out.row.lt b hb).1)
          have HM7 : Hid (MkQ _ _ _ _ _) := HM3.out.step B7 (Nat.le_refl _)
          have hK8 := HK3.out.snoc (en := ⟨x.id, L⟩) (p := p3) (cc := c3) HPO.out (Nat.pos_of_ne_zero hL0) HI3.out (fun b o e e2 => by
            have hlo := (HK3.out.row.lt b e2.symm).1
            rcases HOR.out with h | h
            · rw [h] at e
              obtain ⟨o0, e3⟩ := HF.out b o e
              have hTT := HTT.out
              rw [e3] at hTT
              have := inVr_lt hTT (by omega)
              omega
            · have h1 := h b o e
              have h2 := (HKC.out.row.lt b e2.symm).2
              omega) o7 g7 (by simpa using at7)
          have HK8 : Hid (KeptC _ _ _ _ _ _ _) := hK8
          clear o7 g7 at7 hK8 B7
          go_wp2_with fail
          go_roundw
          case rel => exact ⟨k + 1, _, _, _, by omega, by go_num, HM7.out, by rw [HNX.out]; exact HK8.out⟩
          case measure => simp [intOf]; omega
      · have hlt2 : ¬ (k : Int) < (c.chs.length : Int) := by omega
        have ht : c.chs.take k = c.chs := List.take_of_length_le (by omega)
        rw [ht] at HKC
        obtain ⟨pk, ck, rfl, hrow⟩ := HKC.out.inCh
        have HRW : Hid (RowCh _ _ _) := hrow
        have n0 := M.c0
        have n2 := M.c2
        have hlv := vacB_len t c.chs
        clear ht hrow
        go_wp2_with fail
        refine (ownColl_any c.name pk (some ⟨g2, 0, none⟩) ck cq (vacB t c.chs) c.dfs wr (rowInCh HRW.out) (rowInDf (HR.out.next hbel).df) HSZ.out.name (by omega) (fun p hp => ?_) (by have := HDF.out.1; omega) (fun p hp => ⟨(HSZ.out.dfs p hp).1, by have := (HDF.out.2 p hp).2; omega, (HSZ.out.dfs p hp).2.2⟩)).mono ?_
        · obtain ⟨y, hy, _, h2, _⟩ := vacB_mem hp
          rw [h2]
          exact ⟨Nat.le_trans (leftV_len t y.vs) (by have := (HPT.out y hy).2.2.1; omega), leftV_sz HSZ.out hy t⟩
        rintro e w9 ⟨⟨v9, u9, mid, rfl, hm1, hm2, hCh, hDf⟩, hb9⟩
        obtain ⟨pc9, cc9, rfl⟩ := hCh.slice
        obtain ⟨pd9, cd9, rfl⟩ := hDf.slice
        have HCh : Hid (OwnChH _ _ _ _ _) := hCh
        have HDf : Hid (OwnDfH _ _ _ _ _) := hDf
        obtain ⟨mb, ml, mc0, mc1, mc2, mz0, ⟨r0, mr0⟩, ⟨r1, mr1⟩, ⟨r2, mr2⟩, my0⟩ := M.next hb9
        clear hCh hDf hb9 HM HKC n0 n2
        go_wp2_with fail
        refine bodyPost_ret (v := .tuple #[.agg #[.string c.name, .slice pc9 (vacB t c.chs).length cc9, .slice pd9 c.dfs.length cd9], .int .i64 0]) (by simp [results, Tryz.results15, go_sem, *]) rfl ⟨?_, fun h => (by rw [HV.out] at h; cases h), fun c' h => ?_⟩
        · (repeat (first | (with_reducible exact Below.refl _ _) | (with_reducible assumption) | (with_reducible apply below_drewN) | (with_reducible apply Below.drew) | ((with_reducible refine Below.setCell ?_ ?_ _); rotate_left; focus (first | (simp; done) | (simp; omega) | omega)) | ((with_reducible refine Below.alloc ?_ ?_ _); rotate_left; focus (first | (simp; done) | (simp; omega) | omega))))
        · rw [HV.out] at h
          injection h with h
          subst h
          exact ⟨_, _, mid, rfl, by omega, by simp [World.setCell]; exact hm2, (chH_at (chH_at (chH_at HCh.out _ _ _ (by omega)) _ _ _ (by omega)) _ _ _ (by omega)).mono (by omega) (Nat.le_refl _), (dfH_at (dfH_at (dfH_at HDf.out _ _ _ (by omega)) _ _ _ (by omega)) _ _ _ (by omega)).mono (Nat.le_refl _) (by simp [World.setCell])⟩

end Go.Proofs.YtncpijfbbgipaaaGreatDoor.Co
