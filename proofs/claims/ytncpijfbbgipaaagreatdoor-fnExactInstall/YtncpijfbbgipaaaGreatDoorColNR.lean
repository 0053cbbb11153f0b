/- How many versions a collection has: what the program and the specification answer. -/
import Derived.Test.YtncpijfbbgipaaaGreatDoorColCR
import Derived.Test.YtncpijfbbgipaaaGreatDoorDocBR
import Derived.Test.YtncpijfbbgipaaaGreatDoorEncUQ
import Derived.Deep.RegionHeld3
namespace Go.Proofs.YtncpijfbbgipaaaGreatDoor.Co
open Go.RowKit Tr
set_option linter.unusedVariables false

def versN (l : List Chn) : Nat := (l.map (fun c => c.vs.length)).sum
theorem versN_take (l : List Chn) (k : Nat) (h : k < l.length) : versN (l.take (k + 1)) = versN (l.take k) + l[k].vs.length := by
  unfold versN; rw [List.take_succ_eq_append_getElem h, List.map_append, List.sum_append]; simp
theorem versN_le : ∀ (l : List Chn), (∀ c ∈ l, c.vs.length ≤ 12) → versN l ≤ 12 * l.length
  | [], _ => by simp [versN]
  | c :: r, h => by
    have h1 := h c (by simp)
    have h2 := versN_le r (fun x hx => h x (by simp [hx]))
    unfold versN at *
    rw [List.map_cons, List.sum_cons, List.length_cons]; omega
theorem chsB_all : ∀ (l : List Chn) (last : Int), chsB last l = true → ∀ c ∈ l, topB c.id = true ∧ chnB c = true
  | [], _, _, c, hc => by simp at hc
  | x :: r, last, h, c, hc => by
    rw [chsB] at h
    simp only [Bool.and_eq_true] at h
    obtain ⟨_, a2, a3, a4⟩ := h
    rcases List.mem_cons.mp hc with rfl | hc
    · exact ⟨a2, a3⟩
    · exact chsB_all r x.id a4 c hc
theorem collB_parts {c : Col} (h : collB c = true) : shortB c.name = true ∧ dfsB c.dfs = true ∧ chsB (-1) c.chs = true ∧ c.chs.length ≤ 20 ∧ c.dfs.length ≤ 3 ∧ ∀ x ∈ c.chs, topB x.id = true ∧ 1 ≤ x.vs.length ∧ x.vs.length ≤ 12 ∧ versB x.id 0 x.vs = true := by
  unfold collB at h
  simp only [Bool.and_eq_true] at h
  obtain ⟨h1, h2, h3⟩ := h
  have hl := chsB_len c.chs (-1) (by omega) (by omega) h3
  have hd : c.dfs.length ≤ 3 := by unfold dfsB at h2; simp only [Bool.and_eq_true, decide_eq_true_eq] at h2; exact h2.1
  refine ⟨h1, h2, h3, by omega, hd, fun x hx => ?_⟩
  obtain ⟨a, b⟩ := chsB_all c.chs (-1) h3 x hx
  unfold chnB at b
  simp only [Bool.and_eq_true, decide_eq_true_eq] at b
  exact ⟨a, b.1.1, b.1.2, b.2⟩
theorem versN_small {c : Col} (h : collB c = true) (k : Nat) : versN (c.chs.take k) ≤ 240 := by
  obtain ⟨_, _, _, hl, _, ha⟩ := collB_parts h
  have := versN_le (c.chs.take k) (fun x hx => (ha x (List.mem_of_mem_take hx)).2.2.1)
  rw [List.length_take] at this
  omega
def versR (c : Col) : Int × Int := if collB c = true then (((versN c.chs : Nat) : Int), 0) else (0, 1)

end Go.Proofs.YtncpijfbbgipaaaGreatDoor.Co

/- A chain as it stood at some time: what the program and the specification answer. -/
namespace Go.Proofs.YtncpijfbbgipaaaGreatDoor.Co
open Go.RowKit Tr
set_option linter.unusedVariables false

/-- Ahead of its first version a document is as good as gone. -/
def zG : Ver := ⟨0, true, ⟨0, 0, em⟩⟩
/-- The newest version up to a time, and those behind it. -/
def trk (time : Int) : Ver → List Ver → Ver × List Ver
  | cur, [] => (cur, [])
  | cur, v :: r => if v.tm ≤ time then trk time v r else (cur, v :: r)
def trP (time : Int) (l : List Ver) : Ver × List Ver := trk time zG l
theorem trk_nil (time : Int) (cur : Ver) : trk time cur [] = (cur, []) := rfl
theorem trk_yes (time : Int) (cur v : Ver) (r : List Ver) (h : v.tm ≤ time) : trk time cur (v :: r) = trk time v r := by rw [trk, if_pos h]
theorem trk_no (time : Int) (cur v : Ver) (r : List Ver) (h : ¬ v.tm ≤ time) : trk time cur (v :: r) = (cur, v :: r) := by rw [trk, if_neg h]
/-- The last version up to a time, wherever it stands. -/
def atS (time : Int) (cur : Ver) (l : List Ver) : Ver := l.foldl (fun out v => if v.tm ≤ time then v else out) cur
theorem atS_later (time : Int) : ∀ (l : List Ver) (cur : Ver), (∀ v ∈ l, ¬ v.tm ≤ time) → atS time cur l = cur
  | [], _, _ => rfl
  | v :: r, cur, h => by
    show atS time (if v.tm ≤ time then v else cur) r = cur
    rw [if_neg (h v (by simp))]
    exact atS_later time r cur (fun u hu => h u (by simp [hu]))
theorem versB_rise (id : Int) : ∀ (l : List Ver) (last : Int), versB id last l = true → ∀ v ∈ l, last < v.tm
  | [], _, _, v, hv => by simp at hv
  | x :: r, last, h, v, hv => by
    rw [versB] at h
    simp only [Bool.and_eq_true, decide_eq_true_eq] at h
    obtain ⟨a1, a2, a3, a4⟩ := h
    rcases List.mem_cons.mp hv with rfl | hv
    · exact a1
    · have := versB_rise id r x.tm a4 v hv; omega
theorem atS_trk (id time : Int) : ∀ (l : List Ver) (last : Int) (cur : Ver), versB id last l = true → atS time cur l = (trk time cur l).1
  | [], _, _, _ => rfl
  | v :: r, last, cur, h => by
    have hv := h
    rw [versB] at h
    simp only [Bool.and_eq_true, decide_eq_true_eq] at h
    obtain ⟨a1, a2, a3, a4⟩ := h
    show atS time (if v.tm ≤ time then v else cur) r = _
    by_cases hc : v.tm ≤ time
    · rw [if_pos hc, trk_yes time cur v r hc]
      exact atS_trk id time r v.tm v a4
    · rw [if_neg hc, trk_no time cur v r hc]
      exact atS_later time r cur (fun u hu => by have := versB_rise id r v.tm a4 u hu; omega)
theorem trk_mem (time : Int) : ∀ (l : List Ver) (cur : Ver), ((trk time cur l).1 = cur ∨ (trk time cur l).1 ∈ l) ∧ ∀ v ∈ (trk time cur l).2, v ∈ l
  | [], cur => ⟨.inl rfl, fun v hv => hv⟩
  | x :: r, cur => by
    by_cases hc : x.tm ≤ time
    · rw [trk_yes time cur x r hc]
      obtain ⟨h1, h2⟩ := trk_mem time r x
      refine ⟨.inr ?_, fun v hv => by simp [h2 v hv]⟩
      rcases h1 with h1 | h1
      · rw [h1]; simp
      · simp [h1]
    · rw [trk_no time cur x r hc]
      exact ⟨.inl rfl, fun v hv => hv⟩
theorem trk_len (time : Int) : ∀ (l : List Ver) (cur : Ver), (trk time cur l).2.length ≤ l.length
  | [], _ => Nat.le_refl _
  | x :: r, cur => by
    by_cases hc : x.tm ≤ time
    · rw [trk_yes time cur x r hc]; have := trk_len time r x; simp; omega
    · rw [trk_no time cur x r hc]; exact Nat.le_refl _

theorem InVr.tail {w : World} {b off : Nat} {v : Ver} {r : List Ver} (h : InVr w (some ⟨b, off, none⟩) (v :: r)) : InVr w (some ⟨b, off + 5, none⟩) r := by
  rcases h with h | ⟨b', off', e, hlt, hc⟩
  · simp at h
  · injection e with e; injection e with e1 e2; subst e1; subst e2
    refine .inr ⟨b, off + 5, rfl, hlt, fun i hi => ?_⟩
    have := hc (i + 1) (by simp; omega)
    simp only [List.getElem_cons_succ] at this
    rw [show off + 5 + i * 5 = off + (i + 1) * 5 by omega]
    exact this
/-- The track that is being made, and the answer's own place. -/
structure TrB2 (w W : World) (cur : Ver) (s : Value) : Prop where
  bel : Below w.heap.size w W
  rb : W.heap[w.heap.size + 1]? = some (.cells #[.int .i64 0, .bool false, .int .i64 0, .int .i64 0, .string em, .slice none 0 0] 71)
  tb : W.heap[w.heap.size + 2]? = some (.cells #[.int .i64 cur.tm, .bool cur.gone, .int .i64 cur.doc.k, .int .i64 cur.doc.n, .string cur.doc.t, s] 71)
theorem TrB2.put {w W : World} {cur : Ver} {s : Value} (h : TrB2 w W cur s) (v : Ver) (s' : Value) :
    TrB2 w ((((((W.setCell ⟨w.heap.size + 2, 0, none⟩ (.int .i64 v.tm)).setCell ⟨w.heap.size + 2, 1, none⟩ (.bool v.gone)).setCell ⟨w.heap.size + 2, 2, none⟩ (.int .i64 v.doc.k)).setCell ⟨w.heap.size + 2, 3, none⟩ (.int .i64 v.doc.n)).setCell ⟨w.heap.size + 2, 4, none⟩ (.string v.doc.t)).setCell ⟨w.heap.size + 2, 5, none⟩ s') v s' := by
  refine ⟨?_, ?_, ?_⟩
  · have hb := h.bel
    exact (((((hb.setCell (by show w.heap.size ≤ w.heap.size + 2; omega) _).setCell (by show w.heap.size ≤ w.heap.size + 2; omega) _).setCell (by show w.heap.size ≤ w.heap.size + 2; omega) _).setCell (by show w.heap.size ≤ w.heap.size + 2; omega) _).setCell (by show w.heap.size ≤ w.heap.size + 2; omega) _).setCell (by show w.heap.size ≤ w.heap.size + 2; omega) _
  · rw [set_other (by omega), set_other (by omega), set_other (by omega), set_other (by omega), set_other (by omega), set_other (by omega)]; exact h.rb
  · rw [set_same (set_same (set_same (set_same (set_same (set_same h.tb)))))]; rfl
theorem TrB2.drew {w W : World} {cur : Ver} {s : Value} (h : TrB2 w W cur s) : TrB2 w W.drew cur s := ⟨h.bel.drew, h.rb, h.tb⟩
def lenOf : Option Value → Nat
  | some (.slice _ n _) => n
  | _ => 0

set_option maxRecDepth 4000 in
set_option maxHeartbeats 1000000 in
theorem trackAt_any (id time : Int) (p : Option Addr) (cap : Nat) (l : List Ver) (w : World) (hin : InVr w p l) (hl : l.length ≤ 1048576) (hcap : l.length ≤ cap) :
    Calls Tryz.prog 39 #[.agg #[.int .i64 id, .slice p l.length cap], .int .i64 time] w fun e w' => (∃ p' c', e = .returned (.agg #[.int .i64 (trP time l).1.tm, .bool (trP time l).1.gone, .int .i64 (trP time l).1.doc.k, .int .i64 (trP time l).1.doc.n, .string (trP time l).1.doc.t, .slice p' (trP time l).2.length c']) ∧ InVr w p' (trP time l).2 ∧ (trP time l).2.length ≤ c') ∧ Below w.heap.size w w' := by
  obtain ⟨R, hR⟩ : ∃ R, R = trP time l := ⟨_, rfl⟩
  rw [← hR]
  have HR : Hid (R = trk time zG l) := hR
  have HI : Hid (InVr _ _ _) := hin
  clear hR hin
  go_enter Tryz.func39, Tryz.ntmps39
  go_wp2_with fail
  have K0 : TrB2 w (((w.alloc (.cells #[.int .i64 id, .slice p l.length cap] 67)).alloc (.cells #[.int .i64 0, .bool false, .int .i64 0, .int .i64 0, .string em, .slice none 0 0] 71)).alloc (.cells #[.int .i64 0, .bool true, .int .i64 0, .int .i64 0, .string em, .slice p l.length cap] 71)) zG (.slice p l.length cap) := by
    refine ⟨by (repeat (first | (with_reducible exact Below.refl _ _) | (with_reducible assumption) | (with_reducible apply below_drewN) | (with_reducible apply Below.drew) | ((with_reducible refine Below.setCell ?_ ?_ _); rotate_left; focus (first | (simp; done) | (simp; omega) | omega)) | ((with_reducible refine Below.alloc ?_ ?_ _); rotate_left; focus (first | (simp; done) | (simp; omega) | omega)))), ?_, ?_⟩
    · rw [heap_alloc_old _ _ (by simp)]
      have := heap_alloc_new (w.alloc (.cells #[.int .i64 id, .slice p l.length cap] 67)) (.cells #[.int .i64 0, .bool false, .int .i64 0, .int .i64 0, .string em, .slice none 0 0] 71)
      rw [heap_size_alloc] at this; exact this
    · have := heap_alloc_new ((w.alloc (.cells #[.int .i64 id, .slice p l.length cap] 67)).alloc (.cells #[.int .i64 0, .bool false, .int .i64 0, .int .i64 0, .string em, .slice none 0 0] 71)) (.cells #[.int .i64 0, .bool true, .int .i64 0, .int .i64 0, .string em, .slice p l.length cap] 71)
      rw [heap_size_alloc, heap_size_alloc] at this; exact this
  generalize (((w.alloc (.cells #[.int .i64 id, .slice p l.length cap] 67)).alloc (.cells #[.int .i64 0, .bool false, .int .i64 0, .int .i64 0, .string em, .slice none 0 0] 71)).alloc (.cells #[.int .i64 0, .bool true, .int .i64 0, .int .i64 0, .string em, .slice p l.length cap] 71)) = W0 at K0 ⊢
  go_loopw [13] (fun u wr => ∃ (cur : Ver) (r : List Ver) (p' : Option Addr) (c' : Nat), R = trk time cur r ∧ TrB2 w wr cur (.slice p' r.length c') ∧ InVr w p' r ∧ r.length ≤ c' ∧ r.length ≤ 1048576) (fun _ wr => lenOf (wr.cell? ⟨w.heap.size + 2, 5, none⟩))
  case atStart => exact ⟨zG, l, p, cap, HR.out, K0, HI.out, hcap, hl⟩
  case round =>
    obtain ⟨cur, r, p', c', hall, K, hin, hc, hrl⟩ := hrel
    obtain ⟨t0, t1, t2, t3, t4, t5⟩ := six K.tb
    have hs := fun o => soft K.tb o
    clear K0 HI HR
    cases r with
    | nil =>
      have HF : Hid (R = (cur, [])) := hall
      have hbw := K.bel
      obtain ⟨q0, q1, q2, q3, q4, q5⟩ := six K.rb
      have hq := fun o => soft K.rb o
      clear hall hin hc
      simp only [List.length_nil] at t5
      go_wp2_with fail
      refine bodyPost_ret (v := .agg #[.int .i64 cur.tm, .bool cur.gone, .int .i64 cur.doc.k, .int .i64 cur.doc.n, .string cur.doc.t, .slice p' 0 c']) (by simp [results, Tryz.results39, go_sem, *]) rfl ⟨⟨p', c', by rw [HF.out]; rfl, by rw [HF.out]; exact .inl rfl, by rw [HF.out]; exact Nat.zero_le _⟩, ?_⟩
      (repeat (first | (with_reducible exact Below.refl _ _) | (with_reducible assumption) | (with_reducible apply below_drewN) | (with_reducible apply Below.drew) | ((with_reducible refine Below.setCell ?_ ?_ _); rotate_left; focus (first | (simp; done) | (simp; omega) | omega)) | ((with_reducible refine Below.alloc ?_ ?_ _); rotate_left; focus (first | (simp; done) | (simp; omega) | omega))))
    | cons v r' =>
      rcases hin.step K.bel with h0 | ⟨b, off, rfl, hbl, hcell⟩
      · simp at h0
      obtain ⟨x0, x1, x2, x3, x4⟩ := hcell 0 (by simp)
      simp only [List.getElem_cons_zero, Nat.zero_mul, Nat.add_zero] at x0 x1 x2 x3 x4
      have hlp : (0 : Int) < ((v :: r').length : Int) := by simp
      have hlr : (v :: r').length = r'.length + 1 := rfl
      by_cases hle : v.tm ≤ time
      · rw [trk_yes time cur v r' hle] at hall
        have HA : Hid (R = trk time v r') := hall
        have hbw := K.bel
        clear hall hcell
        go_wp2_with fail
        go_region
        have hin2 : InVr w (if c' = 1 then some ⟨b, off, none⟩ else some ⟨b, off + 5, none⟩) r' := by
          have hc3 : r'.length + 1 ≤ c' := hc
          by_cases h1 : c' = 1
          · rw [if_pos h1]; exact .inl (by omega)
          · rw [if_neg h1]; exact InVr.tail hin
        have hc3 : r'.length ≤ c' - 1 := by have : r'.length + 1 ≤ c' := hc; omega
        have hl3 : r'.length ≤ 1048576 := by have : r'.length + 1 ≤ 1048576 := hrl; omega
        have K2 := (K.put v (.slice (if c' = 1 then some ⟨b, off, none⟩ else some ⟨b, off + 5, none⟩) r'.length (c' - 1))).drew
        go_wp2_with fail
        go_roundw
        case rel => exact ⟨v, r', _, c' - 1, HA.out, K2, hin2, hc3, hl3⟩
        case measure =>
          have e1 := (six K2.tb).2.2.2.2.2
          show lenOf (World.cell? _ ⟨w.heap.size + 2, 5, none⟩) < _
          rw [t5]
          refine Nat.lt_of_le_of_lt (Nat.le_of_eq (congrArg lenOf e1)) ?_
          show r'.length < (v :: r').length
          simp
      · rw [trk_no time cur v r' hle] at hall
        have HF : Hid (R = (cur, v :: r')) := hall
        have hbw := K.bel
        obtain ⟨q0, q1, q2, q3, q4, q5⟩ := six K.rb
        have hq := fun o => soft K.rb o
        have HIN : Hid (InVr _ _ _) := hin
        have hc2 : (v :: r').length ≤ c' := hc
        clear hall hcell hin
        obtain ⟨N, hN⟩ : ∃ N, N = (v :: r').length := ⟨_, rfl⟩
        rw [← hN] at t5 hlp hc2
        go_wp2_with fail
        refine bodyPost_ret (v := .agg #[.int .i64 cur.tm, .bool cur.gone, .int .i64 cur.doc.k, .int .i64 cur.doc.n, .string cur.doc.t, .slice (some ⟨b, off, none⟩) N c']) (by simp [results, Tryz.results39, go_sem, *]) rfl ⟨⟨_, c', by rw [HF.out, hN], by rw [HF.out]; exact HIN.out, by rw [HF.out]; exact hc⟩, ?_⟩
        (repeat (first | (with_reducible exact Below.refl _ _) | (with_reducible assumption) | (with_reducible apply below_drewN) | (with_reducible apply Below.drew) | ((with_reducible refine Below.setCell ?_ ?_ _); rotate_left; focus (first | (simp; done) | (simp; omega) | omega)) | ((with_reducible refine Below.alloc ?_ ?_ _); rotate_left; focus (first | (simp; done) | (simp; omega) | omega))))

end Go.Proofs.YtncpijfbbgipaaaGreatDoor.Co

/- Copies of versions, and where a chain stands: what the program answers. -/
namespace Go.Proofs.YtncpijfbbgipaaaGreatDoor.Co
open Go.RowKit Tr
set_option linter.unusedVariables false

/-- A version's five cells in the first new block, five empty ones that may be written in the second. -/
structure OwnVe (w W : World) (t : Ver) : Prop where
  bel : Below w.heap.size w W
  lt : w.heap.size + 1 < W.heap.size
  cb : W.heap[w.heap.size]? = some (.cells #[.int .i64 t.tm, .bool t.gone, .int .i64 t.doc.k, .int .i64 t.doc.n, .string t.doc.t] 69)
  db : W.heap[w.heap.size + 1]? = some (.cells #[.int .i64 0, .bool false, .int .i64 0, .int .i64 0, .string em] 69)
theorem OwnVe.start (w : World) (t : Ver) : OwnVe w ((w.alloc (.cells #[.int .i64 t.tm, .bool t.gone, .int .i64 t.doc.k, .int .i64 t.doc.n, .string t.doc.t] 69)).alloc (.cells #[.int .i64 0, .bool false, .int .i64 0, .int .i64 0, .string em] 69)) t := by
  refine ⟨((Below.refl _ _).alloc (Nat.le_refl _) _).alloc (by simp) _, by simp, ?_, ?_⟩
  · rw [heap_alloc_old _ _ (by simp)]; exact heap_alloc_new _ _
  · have := heap_alloc_new (w.alloc (.cells #[.int .i64 t.tm, .bool t.gone, .int .i64 t.doc.k, .int .i64 t.doc.n, .string t.doc.t] 69)) (.cells #[.int .i64 0, .bool false, .int .i64 0, .int .i64 0, .string em] 69)
    rw [heap_size_alloc] at this; exact this
theorem OwnVe.step {w W W' : World} {t : Ver} (h : OwnVe w W t) (hb : Below W.heap.size W W') : OwnVe w W' t :=
  have hl : w.heap.size < W.heap.size := Nat.lt_of_succ_lt h.lt
  ⟨h.bel.trans (hb.mono h.bel.size), Nat.lt_of_lt_of_le h.lt hb.size, (hb.block _ hl).trans h.cb, (hb.block _ h.lt).trans h.db⟩
theorem keepVe {w W W' : World} {t : Ver} (h : OwnVe w W t) (hb : Below (w.heap.size + 1) W W') : W'.cell? ⟨w.heap.size, 0, none⟩ = some (.int .i64 t.tm) ∧ W'.cell? ⟨w.heap.size, 1, none⟩ = some (.bool t.gone) ∧ W'.cell? ⟨w.heap.size, 2, none⟩ = some (.int .i64 t.doc.k) ∧ W'.cell? ⟨w.heap.size, 3, none⟩ = some (.int .i64 t.doc.n) ∧ W'.cell? ⟨w.heap.size, 4, none⟩ = some (.string t.doc.t) :=
  have hl : w.heap.size < w.heap.size + 1 := Nat.lt_succ_self _
  have hc := five h.cb
  ⟨(hb.cell hl).trans hc.1, (hb.cell hl).trans hc.2.1, (hb.cell hl).trans hc.2.2.1, (hb.cell hl).trans hc.2.2.2.1, (hb.cell hl).trans hc.2.2.2.2⟩

set_option maxRecDepth 4000 in
set_option maxHeartbeats 4000000 in
theorem ownVer_any (t : Ver) (w : World) (hs : t.doc.t.size ≤ 1048576) :
    Calls Tryz.prog 62 #[.agg #[.int .i64 t.tm, .bool t.gone, .int .i64 t.doc.k, .int .i64 t.doc.n, .string t.doc.t]] w fun e w' => e = .returned (.agg #[.int .i64 t.tm, .bool t.gone, .int .i64 t.doc.k, .int .i64 t.doc.n, .string t.doc.t]) ∧ Below w.heap.size w w' := by
  have X0 := OwnVe.start w t
  have HV : Hid (∀ W : World, Calls _ _ _ W _) := fun W => ownValue_any t.doc.k t.doc.n t.doc.t W hs
  clear hs
  go_enter Tryz.func62, Tryz.ntmps62
  go_wp2_with fail
  generalize (w.alloc (.cells #[.int .i64 t.tm, .bool t.gone, .int .i64 t.doc.k, .int .i64 t.doc.n, .string t.doc.t] 69)).alloc (.cells #[.int .i64 0, .bool false, .int .i64 0, .int .i64 0, .string em] 69) = W0 at X0 ⊢
  obtain ⟨a0, a1, a2, a3, a4⟩ := five X0.cb
  have hlt0 := X0.lt
  have hltw : w.heap.size < W0.heap.size := Nat.lt_of_succ_lt hlt0
  have hbw := X0.bel
  go_region_held3 (fun w0 => w0.cell? ⟨w.heap.size, 0, none⟩ = some (.int .i64 t.tm) ∧ w0.cell? ⟨w.heap.size, 1, none⟩ = some (.bool t.gone) ∧ w0.cell? ⟨w.heap.size, 2, none⟩ = some (.int .i64 t.doc.k) ∧ w0.cell? ⟨w.heap.size, 3, none⟩ = some (.int .i64 t.doc.n) ∧ w0.cell? ⟨w.heap.size, 4, none⟩ = some (.string t.doc.t)) ((refine keepVe X0 ?_; (repeat (first | (with_reducible exact Below.refl _ _) | (with_reducible assumption) | (with_reducible apply below_drewN) | (with_reducible apply Below.drew) | ((with_reducible refine Below.setCell ?_ ?_ _); rotate_left; focus (first | (simp; done) | (simp; omega) | omega)) | ((with_reducible refine Below.alloc ?_ ?_ _); rotate_left; focus (first | (simp; done) | (simp; omega) | omega)))))) ((go_at_call 94; refine (HV.out _).mono ?_; rintro e w2 ⟨rfl, hb⟩; have hB2 : Below W0.heap.size W0 w2 := (show Below W0.heap.size W0 _ by (repeat (first | (with_reducible exact Below.refl _ _) | (with_reducible assumption) | (with_reducible apply below_drewN) | (with_reducible apply Below.drew) | ((with_reducible refine Below.setCell ?_ ?_ _); rotate_left; focus (first | (simp; done) | (simp; omega) | omega)) | ((with_reducible refine Below.alloc ?_ ?_ _); rotate_left; focus (first | (simp; done) | (simp; omega) | omega))))).trans (hb.mono (by first | (simp; done) | (simp; omega) | omega)); have hB2' : Below (w.heap.size + 1) W0 w2 := hB2.mono (by omega); have hzb2 := hB2.size; have hn2 := Nat.lt_of_lt_of_le hltw hzb2; have ho2 := Nat.lt_of_lt_of_le hlt0 hzb2; have Y2 := X0.step hB2; have k0 := (five Y2.db).1; have k1 := (five Y2.db).2.1; have k2 := (five Y2.db).2.2.1; have k3 := (five Y2.db).2.2.2.1; have k4 := (five Y2.db).2.2.2.2; have m0 := soft Y2.db 0; have m1 := soft Y2.db 1; have m2 := soft Y2.db 2; have m3 := soft Y2.db 3; have m4 := soft Y2.db 4; clear hb Y2))
  all_goals
    try go_wp2_with fail
    refine bodyPost_ret (v := .agg #[.int .i64 t.tm, .bool t.gone, .int .i64 t.doc.k, .int .i64 t.doc.n, .string t.doc.t]) (by simp [results, Tryz.results62, go_sem, *]) rfl ⟨rfl, ?_⟩
    have hbb := hbw.trans (hB2.mono hbw.size)
    (repeat (first | (with_reducible exact Below.refl _ _) | (with_reducible assumption) | (with_reducible apply below_drewN) | (with_reducible apply Below.drew) | ((with_reducible refine Below.setCell ?_ ?_ _); rotate_left; focus (first | (simp; done) | (simp; omega) | omega)) | ((with_reducible refine Below.alloc ?_ ?_ _); rotate_left; focus (first | (simp; done) | (simp; omega) | omega))))

/-- Chains that rise. -/
def RiseC (l : List Chn) : Prop := ∀ i j (hi : i < l.length) (hj : j < l.length), i < j → l[i].id < l[j].id
theorem chsB_first : ∀ (l : List Chn) (last : Int), chsB last l = true → ∀ c ∈ l, last < c.id
  | [], _, _, c, hc => by simp at hc
  | x :: r, last, h, c, hc => by
    rw [chsB] at h
    simp only [Bool.and_eq_true, decide_eq_true_eq] at h
    obtain ⟨a1, a2, a3, a4⟩ := h
    rcases List.mem_cons.mp hc with rfl | hc
    · exact a1
    · have := chsB_first r x.id a4 c hc; omega
theorem riseC_of : ∀ (l : List Chn) (last : Int), chsB last l = true → RiseC l
  | [], _, _ => fun i j hi => by simp at hi
  | x :: r, last, h => by
    rw [chsB] at h
    simp only [Bool.and_eq_true, decide_eq_true_eq] at h
    obtain ⟨a1, a2, a3, a4⟩ := h
    have ih := riseC_of r x.id a4
    have hf := chsB_first r x.id a4
    intro i j hi hj hij
    cases j with
    | zero => omega
    | succ j =>
      have hj' : j < r.length := by simpa using hj
      cases i with
      | zero => exact hf r[j] (List.getElem_mem _)
      | succ i => exact ih i j (by simpa using hi) hj' (by omega)
/-- Where the chain of an id stands, or would, and whether it does. -/
structure PlaceC (l : List Chn) (id : Int) (i : Nat) (b : Bool) : Prop where
  le : i ≤ l.length
  lo : ∀ q (h : q < l.length), q < i → l[q].id < id
  hi : ∀ q (h : q < l.length), i ≤ q → id ≤ l[q].id
  at_ : b = true ↔ ∃ h : i < l.length, l[i].id = id
def findC (id : Int) (l : List Chn) : Option Chn := l.find? (fun x => decide (x.id = id))
theorem findC_none (id : Int) : ∀ l : List Chn, (∀ x ∈ l, x.id ≠ id) → findC id l = none
  | [], _ => rfl
  | x :: r, h => by
    show List.find? _ (x :: r) = none
    rw [List.find?_cons, decide_eq_false (h x (by simp))]
    exact findC_none id r (fun y hy => h y (by simp [hy]))
theorem findC_at (id : Int) : ∀ (l : List Chn) (i : Nat) (hi : i < l.length), (∀ q (h : q < l.length), q < i → l[q].id ≠ id) → l[i].id = id → findC id l = some l[i]
  | x :: r, 0, _, _, e => by
    show List.find? _ (x :: r) = _
    rw [List.find?_cons, decide_eq_true (show x.id = id from e)]; rfl
  | x :: r, i + 1, hi, hlo, e => by
    show List.find? _ (x :: r) = _
    rw [List.find?_cons, decide_eq_false (show ¬ x.id = id from hlo 0 (by simp) (by omega))]
    exact findC_at id r i (by simpa using hi) (fun q h hq => hlo (q + 1) (by simpa using h) (by omega)) e
theorem PlaceC.some {l : List Chn} {id : Int} {i : Nat} (h : PlaceC l id i true) : ∃ hi : i < l.length, l[i].id = id ∧ findC id l = some l[i] := by
  obtain ⟨hi, e⟩ := h.at_.1 rfl
  exact ⟨hi, e, findC_at id l i hi (fun q hq hlt => by have := h.lo q hq hlt; omega) e⟩
theorem PlaceC.none {l : List Chn} {id : Int} {i : Nat} (hr : RiseC l) (h : PlaceC l id i false) : findC id l = none := by
  apply findC_none
  intro x hx e
  obtain ⟨q, hq, rfl⟩ := List.getElem_of_mem hx
  have hlt : ¬ q < i := fun hlt => by have := h.lo q hq hlt; omega
  have hi : i < l.length := by omega
  have h1 := h.hi i hi (Nat.le_refl _)
  have hne : l[i].id ≠ id := fun e2 => by have := h.at_.2 ⟨hi, e2⟩; cases this
  rcases Nat.lt_or_ge i q with hlq | hge
  · have := hr i q hi hq hlq; omega
  · obtain rfl : q = i := by omega
    exact hne e
/-- What the search answers. -/
structure PlR (l : List Chn) (id : Int) (e : Ending) : Prop where
  out : ∃ (i : Nat) (b : Bool), e = .returned (.tuple #[.int .i64 (i : Nat), .bool b]) ∧ PlaceC l id i b
set_option maxRecDepth 4000 in
set_option maxHeartbeats 1000000 in
theorem compareChain_any (x : Int) (v : Value) (y : Int) (w : World) :
    Calls Tryz.prog 89 #[.agg #[.int .i64 x, v], .int .i64 y] w fun e w' => e = .returned (.int .i64 (cI x y)) ∧ Below w.heap.size w w' := by
  have X0 := Box2.start w (.int .i64 x) v 67
  have hbw := X0.bel
  have HC : Hid (∀ W : World, Calls _ _ _ W _) := fun W => cmpInt_any x y W
  go_enter Tryz.func89, Tryz.ntmps89
  go_wp2_with fail
  refine (HC.out _).mono ?_
  rintro e w1 ⟨rfl, rfl⟩
  go_wp2_with fail
  go_ret
  exact ⟨rfl, hbw⟩
theorem cI_neg (x y : Int) : decide (cI x y < 0) = decide (x < y) := by
  unfold cI Lib.compareInt
  rw [decide_eq_decide]
  constructor <;> intro h <;> (repeat' split at *) <;> omega
set_option maxRecDepth 8000 in
set_option maxHeartbeats 2000000 in
theorem searchC_any (p : Option Addr) (cap : Nat) (l : List Chn) (id : Int) (w : World) (hr : InCh w p l) (hs : RiseC l) (hl : l.length ≤ 1048576) :
    Calls Tryz.prog 88 #[.slice p l.length cap, .int .i64 id, .func (.func 89) #[] #[]] w fun e' w' => PlR l id e' ∧ Below w.heap.size w w' := by
  have HR : Hid (InCh _ _ _) := hr
  have HS : Hid (RiseC _) := hs
  clear hr hs
  go_enter Tryz.func88, Tryz.ntmps88
  go_wp2_with fail
  go_loopw [9, 10] (fun u v wr => ∃ i j : Nat, i ≤ j ∧ j ≤ l.length ∧ u = .int .i64 i ∧ v = .int .i64 j ∧ (∀ q (h : q < l.length), q < i → l[q].id < id) ∧ (∀ q (h : q < l.length), j ≤ q → id ≤ l[q].id) ∧ Below w.heap.size w wr) (fun u v _ => (intOf v).toNat - (intOf u).toNat)
  case atStart => exact ⟨0, l.length, Nat.zero_le _, Nat.le_refl _, rfl, rfl, (fun q h h2 => absurd h2 (by omega)), (fun q h h2 => absurd h2 (by omega)), Below.refl _ _⟩
  case round =>
    obtain ⟨i, j, hij, hj, rfl, rfl, hlo, hhi, hbel⟩ := hrel
    have HL : Hid _ := hlo
    have HH : Hid _ := hhi
    clear hlo hhi
    by_cases hlt : i < j
    · rcases HR.out.step hbel with h0 | ⟨b2, off, rfl, hbl, hc⟩
      · omega
      have hlt2 : (i : Int) < (j : Int) := by omega
      have hh1 : (i + j) / 2 < l.length := by omega
      have hh2 : ((i : Int) + (j : Int)) / 2 < (l.length : Int) := by omega
      obtain ⟨z0, pv, cv, z1, _⟩ := hc ((i + j) / 2) hh1
      obtain ⟨fe, hfe⟩ : ∃ fe, fe = l[(i + j) / 2] := ⟨_, rfl⟩
      rw [← hfe] at z0 z1
      have HFE : Hid (fe = l[(i + j) / 2]) := hfe
      have hcm := cI_neg fe.id id
      have HCM : Hid (∀ W : World, Calls _ _ _ W _) := fun W => compareChain_any fe.id (.slice pv fe.vs.length cv) id W
      obtain ⟨cm, hcm0⟩ : ∃ cm, cm = cI fe.id id := ⟨_, rfl⟩
      rw [← hcm0] at hcm HCM
      clear hc hfe hcm0
      by_cases hC : fe.id < id
      · rw [decide_eq_true hC] at hcm
        have hnl : cm < 0 := of_decide_eq_true hcm
        have HC : Hid (fe.id < id) := hC
        clear hC hcm
        go_wp2_with fail
        refine (HCM.out _).mono ?_
        rintro e w1 ⟨rfl, hb⟩
        have hb1 := hbel.trans (hb.mono hbel.size)
        clear hb
        go_wp2_with fail
        go_roundw
        case rel =>
          refine ⟨(i + j) / 2 + 1, j, by omega, by omega, congrArg (Value.int .i64) (by omega), rfl, ?_, HH.out, hb1⟩
          intro q hq hlt3
          have hm : l[(i + j) / 2].id < id := by rw [← HFE.out]; exact HC.out
          rcases Nat.lt_or_ge q ((i + j) / 2) with h3 | h3
          · have := HS.out q _ hq hh1 h3; omega
          · obtain rfl : q = (i + j) / 2 := by omega
            exact hm
        case measure => simp [intOf]; omega
      · rw [decide_eq_false hC] at hcm
        have hnl : ¬ cm < 0 := of_decide_eq_false hcm
        have HC : Hid (¬ fe.id < id) := hC
        clear hC hcm
        go_wp2_with fail
        refine (HCM.out _).mono ?_
        rintro e w1 ⟨rfl, hb⟩
        have hb1 := hbel.trans (hb.mono hbel.size)
        clear hb
        go_wp2_with fail
        go_roundw
        case rel =>
          refine ⟨i, (i + j) / 2, by omega, by omega, rfl, congrArg (Value.int .i64) (by omega), HL.out, ?_, hb1⟩
          intro q hq hge
          have hm : ¬ l[(i + j) / 2].id < id := by rw [← HFE.out]; have := HC.out; omega
          rcases Nat.lt_or_ge ((i + j) / 2) q with h3 | h3
          · have := HS.out _ q hh1 hq h3; omega
          · obtain rfl : q = (i + j) / 2 := by omega
            omega
        case measure => simp [intOf]; omega
    · obtain rfl : i = j := by omega
      by_cases hi : i < l.length
      · rcases HR.out.step hbel with h0 | ⟨b2, off, rfl, hbl, hc⟩
        · omega
        obtain ⟨z0, pv, cv, z1, _⟩ := hc i hi
        obtain ⟨fe, hfe⟩ : ∃ fe, fe = l[i] := ⟨_, rfl⟩
        rw [← hfe] at z0 z1
        have HFE : Hid (fe = l[i]) := hfe
        have hi2 : (i : Int) < (l.length : Int) := by omega
        have HCZ : Hid (cI fe.id id = 0 ↔ fe.id = id) := cI_zero fe.id id
        have HCM : Hid (∀ W : World, Calls _ _ _ W _) := fun W => compareChain_any fe.id (.slice pv fe.vs.length cv) id W
        obtain ⟨cm, hcm0⟩ : ∃ cm, cm = cI fe.id id := ⟨_, rfl⟩
        rw [← hcm0] at HCZ HCM
        clear hc hfe hcm0
        cases hz0 : (cm == 0)
        · have HZ : Hid (¬ cm = 0) := beq_eq_false_iff_ne.mp hz0
          go_wp2_with fail
          refine (HCM.out _).mono ?_
          rintro e w1 ⟨rfl, hb⟩
          have hb1 := hbel.trans (hb.mono hbel.size)
          clear hb
          go_wp2_with fail
          go_ret2
          exact ⟨⟨⟨i, false, rfl, ⟨hj, HL.out, HH.out, ⟨(fun h => by cases h), (fun ⟨_, h⟩ => absurd (HCZ.out.2 (by rw [HFE.out]; exact h)) HZ.out)⟩⟩⟩⟩, hb1⟩
        · have HZ : Hid (cm = 0) := beq_iff_eq.mp hz0
          go_wp2_with fail
          refine (HCM.out _).mono ?_
          rintro e w1 ⟨rfl, hb⟩
          have hb1 := hbel.trans (hb.mono hbel.size)
          clear hb
          go_wp2_with fail
          go_ret2
          exact ⟨⟨⟨i, true, rfl, ⟨hj, HL.out, HH.out, ⟨(fun _ => ⟨hi, by rw [← HFE.out]; exact HCZ.out.1 HZ.out⟩), (fun _ => rfl)⟩⟩⟩⟩, hb1⟩
      · have hi2 : ¬ (i : Int) < (l.length : Int) := by omega
        go_wp2_with fail
        go_ret2
        exact ⟨⟨⟨i, false, rfl, ⟨hj, HL.out, HH.out, ⟨(fun h => by cases h), (fun ⟨h, _⟩ => absurd h hi)⟩⟩⟩⟩, hbel⟩
set_option maxRecDepth 4000 in
set_option maxHeartbeats 1000000 in
theorem chainPlace_any (p : Option Addr) (cap : Nat) (l : List Chn) (id : Int) (w : World) (hr : InCh w p l) (hs : RiseC l) (hl : l.length ≤ 1048576) :
    Calls Tryz.prog 59 #[.slice p l.length cap, .int .i64 id] w fun e' w' => PlR l id e' ∧ Below w.heap.size w w' := by
  have HC : Hid (Calls _ _ _ _ _) := searchC_any p cap l id w hr hs hl
  clear hr hs
  go_enter Tryz.func59, Tryz.ntmps59
  go_wp2_with fail
  refine HC.out.mono ?_
  rintro e w1 ⟨⟨⟨i, b, rfl, hp⟩⟩, hb⟩
  have HP : Hid (PlaceC _ _ _ _) := hp
  clear hp HC
  go_wp2_with fail
  go_ret2
  exact ⟨⟨⟨i, b, rfl, HP.out⟩⟩, hb⟩

end Go.Proofs.YtncpijfbbgipaaaGreatDoor.Co

/- The newest version of a chain: what the program and the specification answer. -/
namespace Go.Proofs.YtncpijfbbgipaaaGreatDoor.Co
open Go.RowKit Tr
set_option linter.unusedVariables false

/-- A row of chains at a block's head, whose rows of versions have their room. -/
structure ReadCc (w : World) (g : Nat) (f : List Chn) : Prop where
  lt : g < w.heap.size
  cells : ∀ i (h : i < f.length), w.cell? ⟨g, i * 2, none⟩ = some (.int .i64 f[i].id) ∧ ∃ p cap, w.cell? ⟨g, i * 2 + 1, none⟩ = some (.slice p f[i].vs.length cap) ∧ f[i].vs.length ≤ cap ∧ InVr w p f[i].vs
theorem ReadCc.next {w w' : World} {g : Nat} {f : List Chn} (h : ReadCc w g f) (hb : Below w.heap.size w w') : ReadCc w' g f :=
  ⟨Nat.lt_of_lt_of_le h.lt hb.size, fun i hi => by
    obtain ⟨h0, p, cap, hc, hl, hr⟩ := h.cells i hi
    exact ⟨(hb.cell h.lt).trans h0, p, cap, (hb.cell h.lt).trans hc, hl, hr.step hb⟩⟩
theorem ReadCc.read {w : World} {g : Nat} {f : List Chn} (h : ReadCc w g f) : ReadCh w g f :=
  ⟨h.lt, fun i hi => by
    obtain ⟨h0, p, cap, hc, _, hr⟩ := h.cells i hi
    exact ⟨h0, p, cap, hc, hr⟩⟩
theorem ReadCc.inCh {w : World} {g : Nat} {f : List Chn} (h : ReadCc w g f) : InCh w (some ⟨g, 0, none⟩) f := InVr.rowOf h.read
theorem OwnVr.room {w : World} {base : Nat} {v : Value} {l : List Ver} (h : OwnVr w base v l) : ∃ p cap, v = .slice p l.length cap ∧ l.length ≤ cap ∧ InVr w p l := by
  have h' := h
  obtain ⟨_, h2⟩ := h
  rcases h2 with ⟨h2, h3⟩ | ⟨g, cap, cur, hv, _, _, hc, _⟩
  · have h4 := List.length_eq_zero_iff.1 h3
    subst h4
    exact ⟨none, 0, h2, Nat.zero_le _, .inl rfl⟩
  · obtain ⟨p, c, e1, e2⟩ := h'.inVr
    rw [hv] at e1
    injection e1 with a1 a2 a3
    subst a3
    exact ⟨p, cap, by rw [hv, a1], hc, e2⟩
theorem OwnCh.readCc {w : World} {base g cap n : Nat} {f : List Chn} (h : OwnCh w base (.slice (some ⟨g, 0, none⟩) n cap) f) : ReadCc w g f := by
  obtain ⟨vs, xs, h⟩ := h
  exact ⟨(h.row.lt g rfl).2, fun i hi => by
    obtain ⟨a0, a1⟩ := h.at_ i hi hi
    obtain ⟨p, c, e1, e3, e2⟩ := OwnVr.room (h.ents i hi hi)
    exact ⟨owns_cell h.row _ _ a0, p, c, by rw [← e1]; exact owns_cell h.row _ _ a1, e3, e2⟩⟩
/-- A collection that can be read, with its room. -/
structure RdC (w : World) (g1 g2 : Nat) (c : Col) : Prop where
  ch : ReadCc w g1 c.chs
  df : RowDf w (some ⟨g2, 0, none⟩) c.dfs
theorem RdC.next {w w' : World} {g1 g2 : Nat} {c : Col} (h : RdC w g1 g2 c) (hb : Below w.heap.size w w') : RdC w' g1 g2 c := ⟨h.ch.next hb, h.df.next hb⟩
theorem RdC.rd {w : World} {g1 g2 : Nat} {c : Col} (h : RdC w g1 g2 c) : RdCol w g1 g2 c := ⟨.inr ⟨g1, rfl, h.ch.read⟩, h.df⟩
theorem rdC_of {w : World} {lo mid hi g1 g2 n m c1 c2 : Nat} {c : Col} (h1 : OwnChH w lo mid (.slice (some ⟨g1, 0, none⟩) n c1) c.chs) (h2 : OwnDfH w mid hi (.slice (some ⟨g2, 0, none⟩) m c2) c.dfs) : RdC w g1 g2 c := ⟨h1.own.readCc, h2.own.rowDf⟩

/-- The newest version of an id, and a code. -/
def lastR (c : Col) (id : Int) : Ver × Int := if collB c = true then (match findC id c.chs with | some x => ((trP 10000 x.vs).1, 0) | none => (zVr, 5)) else (zVr, 1)
theorem lastR_bad (c : Col) (id : Int) (h : collB c = false) : lastR c id = (zVr, 1) := by unfold lastR; rw [h]; rfl
theorem lastR_none (c : Col) (id : Int) (h : collB c = true) (hf : findC id c.chs = none) : lastR c id = (zVr, 5) := by unfold lastR; rw [if_pos h, hf]
theorem lastR_some (c : Col) (id : Int) (x : Chn) (h : collB c = true) (hf : findC id c.chs = some x) : lastR c id = ((trP 10000 x.vs).1, 0) := by unfold lastR; rw [if_pos h, hf]
theorem trP_now {id : Int} {l : List Ver} (h : versB id 0 l = true) (hl : 1 ≤ l.length) : (trP 10000 l).1 ∈ l ∧ 1 ≤ (trP 10000 l).1.tm := by
  cases l with
  | nil => simp at hl
  | cons v r =>
    have h' := h
    rw [versB] at h
    simp only [Bool.and_eq_true, decide_eq_true_eq, timeB] at h
    obtain ⟨a1, a2, a3, a4⟩ := h
    have e : trP 10000 (v :: r) = trk 10000 v r := trk_yes 10000 zG v r a2.2
    have hm : (trP 10000 (v :: r)).1 ∈ v :: r := by
      rw [e]
      rcases (trk_mem 10000 r v).1 with h | h
      · rw [h]; simp
      · simp [h]
    have := versB_rise id (v :: r) 0 h' _ hm
    exact ⟨hm, by omega⟩
set_option maxRecDepth 4000 in
set_option maxHeartbeats 1000000 in
theorem trackNow_any (id : Int) (p : Option Addr) (cap : Nat) (l : List Ver) (w : World) (hin : InVr w p l) (hl : l.length ≤ 1048576) (hcap : l.length ≤ cap) :
    Calls Tryz.prog 92 #[.agg #[.int .i64 id, .slice p l.length cap]] w fun e w' => (∃ p' n' c', e = .returned (.agg #[.int .i64 (trP 10000 l).1.tm, .bool (trP 10000 l).1.gone, .int .i64 (trP 10000 l).1.doc.k, .int .i64 (trP 10000 l).1.doc.n, .string (trP 10000 l).1.doc.t, .slice p' n' c'])) ∧ Below w.heap.size w w' := by
  have hb0 : Below w.heap.size w ((w.alloc (.cells #[.int .i64 id, .slice p l.length cap] 67)).alloc (.cells #[.int .i64 0, .bool false, .int .i64 0, .int .i64 0, .string em, .slice none 0 0] 71)) := ((Below.refl _ _).alloc (Nat.le_refl _) _).alloc (by simp) _
  have hrb : ((w.alloc (.cells #[.int .i64 id, .slice p l.length cap] 67)).alloc (.cells #[.int .i64 0, .bool false, .int .i64 0, .int .i64 0, .string em, .slice none 0 0] 71)).heap[w.heap.size + 1]? = some (.cells #[.int .i64 0, .bool false, .int .i64 0, .int .i64 0, .string em, .slice none 0 0] 71) := by
    have := heap_alloc_new (w.alloc (.cells #[.int .i64 id, .slice p l.length cap] 67)) (.cells #[.int .i64 0, .bool false, .int .i64 0, .int .i64 0, .string em, .slice none 0 0] 71)
    rw [heap_size_alloc] at this; exact this
  have HC : Hid (Calls _ _ _ _ _) := trackAt_any id 10000 p cap l _ (hin.step hb0) hl hcap
  obtain ⟨R, hR⟩ : ∃ R, R = trP 10000 l := ⟨_, rfl⟩
  rw [← hR] at HC ⊢
  clear hR hin
  go_enter Tryz.func92, Tryz.ntmps92
  go_wp2_with fail
  generalize (w.alloc (.cells #[.int .i64 id, .slice p l.length cap] 67)).alloc (.cells #[.int .i64 0, .bool false, .int .i64 0, .int .i64 0, .string em, .slice none 0 0] 71) = W0 at hb0 hrb HC ⊢
  have hl0 : w.heap.size + 1 < W0.heap.size := by
    rcases Nat.lt_or_ge (w.heap.size + 1) W0.heap.size with h | h
    · exact h
    · rw [Array.getElem?_eq_none h] at hrb; cases hrb
  refine HC.out.mono ?_
  rintro e w1 ⟨⟨p', c', rfl, _, _⟩, hb⟩
  have hrb1 := (hb.block _ hl0).trans hrb
  obtain ⟨q0, q1, q2, q3, q4, q5⟩ := six hrb1
  have hq := fun o => soft hrb1 o
  have hbw := hb0.trans (hb.mono hb0.size)
  clear hb HC
  go_wp2_with fail
  refine bodyPost_ret (v := .agg #[.int .i64 R.1.tm, .bool R.1.gone, .int .i64 R.1.doc.k, .int .i64 R.1.doc.n, .string R.1.doc.t, .slice p' R.2.length c']) (by simp [results, Tryz.results92, go_sem, *]) rfl ⟨⟨p', _, c', rfl⟩, ?_⟩
  (repeat (first | (with_reducible exact Below.refl _ _) | (with_reducible assumption) | (with_reducible apply below_drewN) | (with_reducible apply Below.drew) | ((with_reducible refine Below.setCell ?_ ?_ _); rotate_left; focus (first | (simp; done) | (simp; omega) | omega)) | ((with_reducible refine Below.alloc ?_ ?_ _); rotate_left; focus (first | (simp; done) | (simp; omega) | omega))))

theorem szVr_of {c : Col} (h : SzCol c) {x : Chn} (hx : x ∈ c.chs) {v : Ver} (hv : v ∈ x.vs) : v.doc.t.size ≤ 1048576 := (h.chs x hx).2 v hv
end Go.Proofs.YtncpijfbbgipaaaGreatDoor.Co

/- The newest version up to a time, and of an id: what the specification answers. -/
namespace Go.Proofs.YtncpijfbbgipaaaGreatDoor.Co
open Go.RowKit Tr
set_option linter.unusedVariables false

theorem atS_take (time : Int) (l : List Ver) (k : Nat) (h : k < l.length) : atS time zG (l.take (k + 1)) = if l[k].tm ≤ time then l[k] else atS time zG (l.take k) := by
  unfold atS; rw [List.take_succ_eq_append_getElem h, List.foldl_append]; rfl
/-- What came in, the answer's own place, and what is found so far. -/
structure AtB (w W : World) (id : Int) (s : Value) (cur : Ver) : Prop where
  bel : Below w.heap.size w W
  lt : w.heap.size + 2 < W.heap.size
  xb : W.heap[w.heap.size]? = some (.cells #[.int .i64 id, s] 67)
  rb : W.heap[w.heap.size + 1]? = some (.cells #[.int .i64 0, .bool false, .int .i64 0, .int .i64 0, .string em] 69)
  ob : W.heap[w.heap.size + 2]? = some (.cells #[.int .i64 cur.tm, .bool cur.gone, .int .i64 cur.doc.k, .int .i64 cur.doc.n, .string cur.doc.t] 69)
theorem two {W : World} {b : Nat} {T : TypeId} {v0 v1 : Value} (h : W.heap[b]? = some (.cells #[v0, v1] T)) : W.cell? ⟨b, 0, none⟩ = some v0 ∧ W.cell? ⟨b, 1, none⟩ = some v1 := by
  refine ⟨?_, ?_⟩ <;> simp [World.cell?, h]
theorem AtB.put {w W : World} {id : Int} {s : Value} {cur : Ver} (h : AtB w W id s cur) (v : Ver) :
    AtB w (((((W.setCell ⟨w.heap.size + 2, 0, none⟩ (.int .i64 v.tm)).setCell ⟨w.heap.size + 2, 1, none⟩ (.bool v.gone)).setCell ⟨w.heap.size + 2, 2, none⟩ (.int .i64 v.doc.k)).setCell ⟨w.heap.size + 2, 3, none⟩ (.int .i64 v.doc.n)).setCell ⟨w.heap.size + 2, 4, none⟩ (.string v.doc.t)) id s v := by
  refine ⟨?_, by simpa [World.setCell] using h.lt, ?_, ?_, ?_⟩
  · have hb := h.bel
    exact ((((hb.setCell (by show w.heap.size ≤ w.heap.size + 2; omega) _).setCell (by show w.heap.size ≤ w.heap.size + 2; omega) _).setCell (by show w.heap.size ≤ w.heap.size + 2; omega) _).setCell (by show w.heap.size ≤ w.heap.size + 2; omega) _).setCell (by show w.heap.size ≤ w.heap.size + 2; omega) _
  · rw [set_other (by omega), set_other (by omega), set_other (by omega), set_other (by omega), set_other (by omega)]; exact h.xb
  · rw [set_other (by omega), set_other (by omega), set_other (by omega), set_other (by omega), set_other (by omega)]; exact h.rb
  · rw [set_same (set_same (set_same (set_same (set_same h.ob))))]; rfl
theorem AtB.start (w : World) (id : Int) (s : Value) : AtB w (((w.alloc (.cells #[.int .i64 id, s] 67)).alloc (.cells #[.int .i64 0, .bool false, .int .i64 0, .int .i64 0, .string em] 69)).alloc (.cells #[.int .i64 0, .bool true, .int .i64 0, .int .i64 0, .string em] 69)) id s zG := by
  refine ⟨((Below.refl _ _).alloc (Nat.le_refl _) _ |>.alloc (by simp) _).alloc (by simp; omega) _, by simp, ?_, ?_, ?_⟩
  · rw [heap_alloc_old _ _ (by simp; omega), heap_alloc_old _ _ (by simp)]; exact heap_alloc_new _ _
  · rw [heap_alloc_old _ _ (by simp)]
    have := heap_alloc_new (w.alloc (.cells #[.int .i64 id, s] 67)) (.cells #[.int .i64 0, .bool false, .int .i64 0, .int .i64 0, .string em] 69)
    rw [heap_size_alloc] at this; exact this
  · have := heap_alloc_new ((w.alloc (.cells #[.int .i64 id, s] 67)).alloc (.cells #[.int .i64 0, .bool false, .int .i64 0, .int .i64 0, .string em] 69)) (.cells #[.int .i64 0, .bool true, .int .i64 0, .int .i64 0, .string em] 69)
    rw [heap_size_alloc, heap_size_alloc] at this; exact this

set_option maxRecDepth 4000 in
set_option maxHeartbeats 1000000 in
theorem l08At_any (id time : Int) (p : Option Addr) (cap : Nat) (l : List Ver) (w : World) (hin : InVr w p l) (hl : l.length ≤ 1048576) :
    Calls Tryz.prog 76 #[.agg #[.int .i64 id, .slice p l.length cap], .int .i64 time] w fun e w' => e = .returned (.agg #[.int .i64 (atS time zG l).tm, .bool (atS time zG l).gone, .int .i64 (atS time zG l).doc.k, .int .i64 (atS time zG l).doc.n, .string (atS time zG l).doc.t]) ∧ Below w.heap.size w w' := by
  obtain ⟨R, hR⟩ : ∃ R, R = atS time zG l := ⟨_, rfl⟩
  rw [← hR]
  have HR : Hid (R = atS time zG l) := hR
  have HI : Hid (InVr _ _ _) := hin
  have K0 := AtB.start w id (.slice p l.length cap)
  clear hR hin
  go_enter Tryz.func76, Tryz.ntmps76
  go_wp2_with fail
  generalize (((w.alloc (.cells #[.int .i64 id, .slice p l.length cap] 67)).alloc (.cells #[.int .i64 0, .bool false, .int .i64 0, .int .i64 0, .string em] 69)).alloc (.cells #[.int .i64 0, .bool true, .int .i64 0, .int .i64 0, .string em] 69)) = W0 at K0 ⊢
  go_loopw [6] (fun i wr => ∃ k : Nat, k ≤ l.length ∧ i = .int .i64 k ∧ AtB w wr id (.slice p l.length cap) (atS time zG (l.take k))) (fun i _ => l.length - (intOf i).toNat)
  case atStart => exact ⟨0, Nat.zero_le _, rfl, K0⟩
  case round =>
    obtain ⟨k, hk, rfl, K⟩ := hrel
    clear K0
    obtain ⟨x0, x1⟩ := two K.xb
    by_cases hlt : k < l.length
    · rcases HI.out.step K.bel with h0 | ⟨b, off, rfl, hbl, hcell⟩
      · omega
      obtain ⟨y0, y1, y2, y3, y4⟩ := hcell k hlt
      have hst := atS_take time l k hlt
      have hlt2 : (k : Int) < (l.length : Int) := by omega
      obtain ⟨v, hv⟩ : ∃ v, v = l[k] := ⟨_, rfl⟩
      rw [← hv] at y0 y1 y2 y3 y4 hst
      obtain ⟨cur, hcur⟩ : ∃ cur, cur = atS time zG (l.take k) := ⟨_, rfl⟩
      rw [← hcur] at hst K
      obtain ⟨t0, t1, t2, t3, t4⟩ := five K.ob
      have hs := fun o => soft K.ob o
      clear hcell hv hcur
      by_cases hle : v.tm ≤ time
      · rw [if_pos hle] at hst
        have HST : Hid (atS time zG (l.take (k + 1)) = v) := hst
        have K2 := K.put v
        have HK2 : Hid (AtB _ _ _ _ _) := K2
        clear hst K2
        go_wp2_with fail
        go_roundw
        case rel => exact ⟨k + 1, by omega, by go_num, by rw [HST.out]; exact HK2.out⟩
        case measure => simp [intOf]; omega
      · rw [if_neg hle] at hst
        have HST : Hid (atS time zG (l.take (k + 1)) = cur) := hst
        have HK2 : Hid (AtB _ _ _ _ _) := K
        clear hst
        go_wp2_with fail
        go_roundw
        case rel => exact ⟨k + 1, by omega, by go_num, by rw [HST.out]; exact HK2.out⟩
        case measure => simp [intOf]; omega
    · have hlt2 : ¬ (k : Int) < (l.length : Int) := by omega
      have hRk : R = atS time zG (l.take k) := by rw [HR.out, List.take_of_length_le (by omega)]
      rw [← hRk] at K
      obtain ⟨t0, t1, t2, t3, t4⟩ := five K.ob
      obtain ⟨q0, q1, q2, q3, q4⟩ := five K.rb
      have hq := fun o => soft K.rb o
      have hbw := K.bel
      clear hRk
      go_wp2_with fail
      refine bodyPost_ret (v := .agg #[.int .i64 R.tm, .bool R.gone, .int .i64 R.doc.k, .int .i64 R.doc.n, .string R.doc.t]) (by simp [results, Tryz.results76, go_sem, *]) rfl ⟨rfl, ?_⟩
      (repeat (first | (with_reducible exact Below.refl _ _) | (with_reducible assumption) | (with_reducible apply below_drewN) | (with_reducible apply Below.drew) | ((with_reducible refine Below.setCell ?_ ?_ _); rotate_left; focus (first | (simp; done) | (simp; omega) | omega)) | ((with_reducible refine Below.alloc ?_ ?_ _); rotate_left; focus (first | (simp; done) | (simp; omega) | omega))))

/-- The newest version of an id, zero but gone without any. -/
def lastS (c : List Chn) (id : Int) : Ver := match findC id c with | some x => atS 10000 zG x.vs | none => zG
theorem box3_res (w : World) (a b d : Value) : ((w.alloc (.cells #[a, b, d] 35)).alloc (.cells #[.int .i64 0, .bool false, .int .i64 0, .int .i64 0, .string em] 69)).heap[w.heap.size + 1]? = some (.cells #[.int .i64 0, .bool false, .int .i64 0, .int .i64 0, .string em] 69) := by
  have := heap_alloc_new (w.alloc (.cells #[a, b, d] 35)) (.cells #[.int .i64 0, .bool false, .int .i64 0, .int .i64 0, .string em] 69)
  rw [heap_size_alloc] at this; exact this
set_option maxRecDepth 4000 in
set_option maxHeartbeats 2000000 in
theorem l08Last_any (n : ByteArray) (q : Value) (chs : List Chn) (id : Int) (g1 cp : Nat) (w : World) (hr : ReadCc w g1 chs) (hl : chs.length ≤ 1048576) (hs : ∀ x ∈ chs, x.vs.length ≤ 1048576) :
    Calls Tryz.prog 46 #[.agg #[.string n, .slice (some ⟨g1, 0, none⟩) chs.length cp, q], .int .i64 id] w fun e w' => e = .returned (.agg #[.int .i64 (lastS chs id).tm, .bool (lastS chs id).gone, .int .i64 (lastS chs id).doc.k, .int .i64 (lastS chs id).doc.n, .string (lastS chs id).doc.t]) ∧ Below w.heap.size w w' := by
  have X0 := Boxed.start w (.string n) (.slice (some ⟨g1, 0, none⟩) chs.length cp) q 35
  have hb0 : Below (w.alloc (.cells #[.string n, .slice (some ⟨g1, 0, none⟩) chs.length cp, q] 35)).heap.size (w.alloc (.cells #[.string n, .slice (some ⟨g1, 0, none⟩) chs.length cp, q] 35)) ((w.alloc (.cells #[.string n, .slice (some ⟨g1, 0, none⟩) chs.length cp, q] 35)).alloc (.cells #[.int .i64 0, .bool false, .int .i64 0, .int .i64 0, .string em] 69)) := (Below.refl _ _).alloc (Nat.le_refl _) _
  have hrb := box3_res w (.string n) (.slice (some ⟨g1, 0, none⟩) chs.length cp) q
  have X1 := X0.step hb0
  have HR : Hid (ReadCc _ _ _) := hr.next X1.bel
  have HS : Hid _ := hs
  obtain ⟨L, hL⟩ : ∃ L, L = lastS chs id := ⟨_, rfl⟩
  rw [← hL]
  have HL : Hid (L = lastS chs id) := hL
  clear hr hs X0 hb0 hL
  go_enter Tryz.func46, Tryz.ntmps46
  go_wp2_with fail
  generalize ((w.alloc (.cells #[.string n, .slice (some ⟨g1, 0, none⟩) chs.length cp, q] 35)).alloc (.cells #[.int .i64 0, .bool false, .int .i64 0, .int .i64 0, .string em] 69)) = W0 at X1 hrb HR ⊢
  have hl0 : w.heap.size + 1 < W0.heap.size := by
    rcases Nat.lt_or_ge (w.heap.size + 1) W0.heap.size with h | h
    · exact h
    · rw [Array.getElem?_eq_none h] at hrb; cases hrb
  go_loopw [5] (fun i wr => ∃ k : Nat, k ≤ chs.length ∧ i = .int .i64 k ∧ (∀ j (h : j < chs.length), j < k → chs[j].id ≠ id) ∧ Below W0.heap.size W0 wr) (fun i _ => chs.length - (intOf i).toNat)
  case atStart => exact ⟨0, Nat.zero_le _, rfl, (fun j h hj => by omega), Below.refl _ _⟩
  case round =>
    obtain ⟨k, hk, rfl, hno, hbel⟩ := hrel
    have HNO : Hid (∀ j (h : j < chs.length), j < k → chs[j].id ≠ id) := hno
    have X := X1.step hbel
    have c1 := X.c1
    have hrbk := (hbel.block _ hl0).trans hrb
    have hlk := Nat.lt_of_lt_of_le hl0 hbel.size
    clear hno
    by_cases hlt : k < chs.length
    · have RDk := HR.out.next hbel
      obtain ⟨x0, pv, cv, x1, hcv, hT⟩ := RDk.cells k hlt
      have hgl := RDk.lt
      have hlt2 : (k : Int) < (chs.length : Int) := by omega
      have hsx := HS.out chs[k] (List.getElem_mem _)
      have HLK : Hid (chs[k].id = id → L = atS 10000 zG chs[k].vs) := fun e => by rw [HL.out]; unfold lastS; rw [findC_at id chs k hlt HNO.out e]
      obtain ⟨v, hv⟩ : ∃ v, v = chs[k] := ⟨_, rfl⟩
      have HVK : Hid (v = chs[k]) := hv
      rw [← hv] at x0 x1 hT hsx HLK
      have HAT : Hid (Calls _ _ _ _ _) := l08At_any v.id 10000 pv cv v.vs wr hT hsx
      clear hT hsx RDk hv
      by_cases he : v.id = id
      · have he2 : (v.id == id) = true := by simp [he]
        rw [← HLK.out he] at HAT
        clear HLK he
        go_wp2_with fail
        refine HAT.out.mono ?_
        rintro e w1 ⟨rfl, hb⟩
        have hrb1 := (hb.block _ hlk).trans hrbk
        obtain ⟨q0, q1, q2, q3, q4⟩ := five hrb1
        have hq := fun o => soft hrb1 o
        have hbw := (X.step hb).bel
        clear hb HAT
        go_wp2_with fail
        refine bodyPost_ret (v := .agg #[.int .i64 L.tm, .bool L.gone, .int .i64 L.doc.k, .int .i64 L.doc.n, .string L.doc.t]) (by simp [results, Tryz.results46, go_sem, *]) rfl ⟨rfl, ?_⟩
        (repeat (first | (with_reducible exact Below.refl _ _) | (with_reducible assumption) | (with_reducible apply below_drewN) | (with_reducible apply Below.drew) | ((with_reducible refine Below.setCell ?_ ?_ _); rotate_left; focus (first | (simp; done) | (simp; omega) | omega)) | ((with_reducible refine Below.alloc ?_ ?_ _); rotate_left; focus (first | (simp; done) | (simp; omega) | omega))))
      · have he2 : (v.id == id) = false := beq_eq_false_iff_ne.mpr he
        have HNE : Hid (v.id ≠ id) := he
        clear HLK he HAT
        go_wp2_with fail
        go_roundw
        case rel =>
          refine ⟨k + 1, by omega, by go_num, fun j h hj => ?_, hbel⟩
          rcases Nat.lt_or_ge j k with h2 | h2
          · exact HNO.out j h h2
          · obtain rfl : j = k := by omega
            rw [← HVK.out]; exact HNE.out
        case measure => simp [intOf]; omega
    · have hlt2 : ¬ (k : Int) < (chs.length : Int) := by omega
      have hLz : L = zG := by
        rw [HL.out]; unfold lastS
        rw [findC_none id chs (fun x hx => by obtain ⟨j, hj, rfl⟩ := List.getElem_of_mem hx; exact HNO.out j hj (by omega))]
      have HLZ : Hid (L = zG) := hLz
      obtain ⟨q0, q1, q2, q3, q4⟩ := five hrbk
      have hq := fun o => soft hrbk o
      have hbw := X.bel
      clear hLz
      go_wp2_with fail
      refine bodyPost_ret (v := .agg #[.int .i64 0, .bool true, .int .i64 0, .int .i64 0, .string em]) (by simp [results, Tryz.results46, go_sem, *]) rfl ⟨by rw [HLZ.out]; rfl, ?_⟩
      (repeat (first | (with_reducible exact Below.refl _ _) | (with_reducible assumption) | (with_reducible apply below_drewN) | (with_reducible apply Below.drew) | ((with_reducible refine Below.setCell ?_ ?_ _); rotate_left; focus (first | (simp; done) | (simp; omega) | omega)) | ((with_reducible refine Below.alloc ?_ ?_ _); rotate_left; focus (first | (simp; done) | (simp; omega) | omega))))

/-- A version in its block. -/
structure V5 (U : World) (b : Nat) (v : Ver) : Prop where
  lt : b < U.heap.size
  cb : U.heap[b]? = some (.cells #[.int .i64 v.tm, .bool v.gone, .int .i64 v.doc.k, .int .i64 v.doc.n, .string v.doc.t] 69)
theorem V5.new (U : World) (v : Ver) : V5 (U.alloc (.cells #[.int .i64 v.tm, .bool v.gone, .int .i64 v.doc.k, .int .i64 v.doc.n, .string v.doc.t] 69)) U.heap.size v := ⟨by simp, heap_alloc_new _ _⟩
theorem V5.step {U U' : World} {b : Nat} {v : Ver} (h : V5 U b v) (hb : Below U.heap.size U U') : V5 U' b v := ⟨Nat.lt_of_lt_of_le h.lt hb.size, (hb.block _ h.lt).trans h.cb⟩

end Go.Proofs.YtncpijfbbgipaaaGreatDoor.Co
