/- How many versions a collection has: what the program and the specification answer. -/
import Derived.Test.YtpfbepbmiillbaaGreatDoorDefOQ
import Derived.Test.YtpfbepbmiillbaaGreatDoorDocBQ
import Derived.Test.YtpfbepbmiillbaaGreatDoorOwnQ
import Derived.Deep.RegionHeld3
namespace Go.Proofs.YtpfbepbmiillbaaGreatDoor.Co
open Go.RowKit Tr
set_option linter.unusedVariables false

def versN (l : List Chn) : Nat := (l.map (fun c => c.vs.length)).sum
theorem versN_take (l : List Chn) (k : Nat) (h : k < l.length) : versN (l.take (k + 1)) = versN (l.take k) + l[k].vs.length := by
  unfold versN; rw [List.take_succ_eq_append_getElem h, List.map_append, List.sum_append]; simp
theorem versN_le : ∀ (l : List Chn), (∀ c ∈ l, c.vs.length ≤ 12) → versN l ≤ 12 * l.length
  | [], _ => by simp [versN]
  | c :: r, h => by
    have h1 := h c (by simp)
    have h2 := versN_le r (fun x hx => h x (by simp [hx]))
    unfold versN at *
    rw [List.map_cons, List.sum_cons, List.length_cons]; omega
theorem chsB_all : ∀ (l : List Chn) (last : Int), chsB last l = true → ∀ c ∈ l, topB c.id = true ∧ chnB c = true
  | [], _, _, c, hc => by simp at hc
  | x :: r, last, h, c, hc => by
    rw [chsB] at h
    simp only [Bool.and_eq_true] at h
    obtain ⟨_, a2, a3, a4⟩ := h
    rcases List.mem_cons.mp hc with rfl | hc
    · exact ⟨a2, a3⟩
    · exact chsB_all r x.id a4 c hc
theorem collB_parts {c : Col} (h : collB c = true) : shortB c.name = true ∧ dfsB c.dfs = true ∧ chsB (-1) c.chs = true ∧ c.chs.length ≤ 20 ∧ c.dfs.length ≤ 3 ∧ ∀ x ∈ c.chs, topB x.id = true ∧ 1 ≤ x.vs.length ∧ x.vs.length ≤ 12 ∧ versB x.id 0 x.vs = true := by
  unfold collB at h
  simp only [Bool.and_eq_true] at h
  obtain ⟨h1, h2, h3⟩ := h
  have hl := chsB_len c.chs (-1) (by omega) (by omega) h3
  have hd : c.dfs.length ≤ 3 := by unfold dfsB at h2; simp only [Bool.and_eq_true, decide_eq_true_eq] at h2; exact h2.1
  refine ⟨h1, h2, h3, by omega, hd, fun x hx => ?_⟩
  obtain ⟨a, b⟩ := chsB_all c.chs (-1) h3 x hx
  unfold chnB at b
  simp only [Bool.and_eq_true, decide_eq_true_eq] at b
  exact ⟨a, b.1.1, b.1.2, b.2⟩
theorem versN_small {c : Col} (h : collB c = true) (k : Nat) : versN (c.chs.take k) ≤ 240 := by
  obtain ⟨_, _, _, hl, _, ha⟩ := collB_parts h
  have := versN_le (c.chs.take k) (fun x hx => (ha x (List.mem_of_mem_take hx)).2.2.1)
  rw [List.length_take] at this
  omega
def versR (c : Col) : Int × Int := if collB c = true then (((versN c.chs : Nat) : Int), 0) else (0, 1)

end Go.Proofs.YtpfbepbmiillbaaGreatDoor.Co

/- A chain as it stood at some time: what the program and the specification answer. -/
namespace Go.Proofs.YtpfbepbmiillbaaGreatDoor.Co
open Go.RowKit Tr
set_option linter.unusedVariables false

/-- Ahead of its first version a document is as good as gone. -/
def zG : Ver := ⟨0, true, ⟨0, 0, em⟩⟩
/-- The newest version up to a time, and those behind it. -/
def trk (time : Int) : Ver → List Ver → Ver × List Ver
  | cur, [] => (cur, [])
  | cur, v :: r => if v.tm ≤ time then trk time v r else (cur, v :: r)
def trP (time : Int) (l : List Ver) : Ver × List Ver := trk time zG l
theorem trk_nil (time : Int) (cur : Ver) : trk time cur [] = (cur, []) := rfl
theorem trk_yes (time : Int) (cur v : Ver) (r : List Ver) (h : v.tm ≤ time) : trk time cur (v :: r) = trk time v r := by rw [trk, if_pos h]
theorem trk_no (time : Int) (cur v : Ver) (r : List Ver) (h : ¬ v.tm ≤ time) : trk time cur (v :: r) = (cur, v :: r) := by rw [trk, if_neg h]
/-- The last version up to a time, wherever it stands. -/
def atS (time : Int) (cur : Ver) (l : List Ver) : Ver := l.foldl (fun out v => if v.tm ≤ time then v else out) cur
theorem atS_later (time : Int) : ∀ (l : List Ver) (cur : Ver), (∀ v ∈ l, ¬ v.tm ≤ time) → atS time cur l = cur
  | [], _, _ => rfl
  | v :: r, cur, h => by
    show atS time (if v.tm ≤ time then v else cur) r = cur
    rw [if_neg (h v (by simp))]
    exact atS_later time r cur (fun u hu => h u (by simp [hu]))
theorem versB_rise (id : Int) : ∀ (l : List Ver) (last : Int), versB id last l = true → ∀ v ∈ l, last < v.tm
  | [], _, _, v, hv => by simp at hv
  | x :: r, last, h, v, hv => by
    rw [versB] at h
    simp only [Bool.and_eq_true, decide_eq_true_eq] at h
    obtain ⟨a1, a2, a3, a4⟩ := h
    rcases List.mem_cons.mp hv with rfl | hv
    · exact a1
    · have := versB_rise id r x.tm a4 v hv; omega
theorem atS_trk (id time : Int) : ∀ (l : List Ver) (last : Int) (cur : Ver), versB id last l = true → atS time cur l = (trk time cur l).1
  | [], _, _, _ => rfl
  | v :: r, last, cur, h => by
    have hv := h
    rw [versB] at h
    simp only [Bool.and_eq_true, decide_eq_true_eq] at h
    obtain ⟨a1, a2, a3, a4⟩ := h
    show atS time (if v.tm ≤ time then v else cur) r = _
    by_cases hc : v.tm ≤ time
    · rw [if_pos hc, trk_yes time cur v r hc]
      exact atS_trk id time r v.tm v a4
    · rw [if_neg hc, trk_no time cur v r hc]
      exact atS_later time r cur (fun u hu => by have := versB_rise id r v.tm a4 u hu; omega)
theorem trk_mem (time : Int) : ∀ (l : List Ver) (cur : Ver), ((trk time cur l).1 = cur ∨ (trk time cur l).1 ∈ l) ∧ ∀ v ∈ (trk time cur l).2, v ∈ l
  | [], cur => ⟨.inl rfl, fun v hv => hv⟩
  | x :: r, cur => by
    by_cases hc : x.tm ≤ time
    · rw [trk_yes time cur x r hc]
      obtain ⟨h1, h2⟩ := trk_mem time r x
      refine ⟨.inr ?_, fun v hv => by simp [h2 v hv]⟩
      rcases h1 with h1 | h1
      · rw [h1]; simp
      · simp [h1]
    · rw [trk_no time cur x r hc]
      exact ⟨.inl rfl, fun v hv => hv⟩
theorem trk_len (time : Int) : ∀ (l : List Ver) (cur : Ver), (trk time cur l).2.length ≤ l.length
  | [], _ => Nat.le_refl _
  | x :: r, cur => by
    by_cases hc : x.tm ≤ time
    · rw [trk_yes time cur x r hc]; have := trk_len time r x; simp; omega
    · rw [trk_no time cur x r hc]; exact Nat.le_refl _

theorem InVr.tail {w : World} {b off : Nat} {v : Ver} {r : List Ver} (h : InVr w (some ⟨b, off, none⟩) (v :: r)) : InVr w (some ⟨b, off + 5, none⟩) r := by
  rcases h with h | ⟨b', off', e, hlt, hc⟩
  · simp at h
  · injection e with e; injection e with e1 e2; subst e1; subst e2
    refine .inr ⟨b, off + 5, rfl, hlt, fun i hi => ?_⟩
    have := hc (i + 1) (by simp; omega)
    simp only [List.getElem_cons_succ] at this
    rw [show off + 5 + i * 5 = off + (i + 1) * 5 by omega]
    exact this
/-- The track that is being made, and the answer's own place. -/
structure TrB2 (w W : World) (cur : Ver) (s : Value) : Prop where
  bel : Below w.heap.size w W
  rb : W.heap[w.heap.size + 1]? = some (.cells #[.int .i64 0, .bool false, .int .i64 0, .int .i64 0, .string em, .slice none 0 0] 131)
  tb : W.heap[w.heap.size + 2]? = some (.cells #[.int .i64 cur.tm, .bool cur.gone, .int .i64 cur.doc.k, .int .i64 cur.doc.n, .string cur.doc.t, s] 131)
theorem TrB2.put {w W : World} {cur : Ver} {s : Value} (h : TrB2 w W cur s) (v : Ver) (s' : Value) :
    TrB2 w ((((((W.setCell ⟨w.heap.size + 2, 0, none⟩ (.int .i64 v.tm)).setCell ⟨w.heap.size + 2, 1, none⟩ (.bool v.gone)).setCell ⟨w.heap.size + 2, 2, none⟩ (.int .i64 v.doc.k)).setCell ⟨w.heap.size + 2, 3, none⟩ (.int .i64 v.doc.n)).setCell ⟨w.heap.size + 2, 4, none⟩ (.string v.doc.t)).setCell ⟨w.heap.size + 2, 5, none⟩ s') v s' := by
  refine ⟨?_, ?_, ?_⟩
  · have hb := h.bel
    exact (((((hb.setCell (by show w.heap.size ≤ w.heap.size + 2; omega) _).setCell (by show w.heap.size ≤ w.heap.size + 2; omega) _).setCell (by show w.heap.size ≤ w.heap.size + 2; omega) _).setCell (by show w.heap.size ≤ w.heap.size + 2; omega) _).setCell (by show w.heap.size ≤ w.heap.size + 2; omega) _).setCell (by show w.heap.size ≤ w.heap.size + 2; omega) _
  · rw [set_other (by omega), set_other (by omega), set_other (by omega), set_other (by omega), set_other (by omega), set_other (by omega)]; exact h.rb
  · rw [set_same (set_same (set_same (set_same (set_same (set_same h.tb)))))]; rfl
theorem TrB2.drew {w W : World} {cur : Ver} {s : Value} (h : TrB2 w W cur s) : TrB2 w W.drew cur s := ⟨h.bel.drew, h.rb, h.tb⟩
def lenOf : Option Value → Nat
  | some (.slice _ n _) => n
  | _ => 0

set_option maxRecDepth 4000 in
set_option maxHeartbeats 1000000 in
theorem trackAt_any (id time : Int) (p : Option Addr) (cap : Nat) (l : List Ver) (w : World) (hin : InVr w p l) (hl : l.length ≤ 1048576) (hcap : l.length ≤ cap) :
    Calls Tryz.prog 90 #[.agg #[.int .i64 id, .slice p l.length cap], .int .i64 time] w fun e w' => (∃ p' c', e = .returned (.agg #[.int .i64 (trP time l).1.tm, .bool (trP time l).1.gone, .int .i64 (trP time l).1.doc.k, .int .i64 (trP time l).1.doc.n, .string (trP time l).1.doc.t, .slice p' (trP time l).2.length c']) ∧ InVr w p' (trP time l).2 ∧ (trP time l).2.length ≤ c') ∧ Below w.heap.size w w' := by
  obtain ⟨R, hR⟩ : ∃ R, R = trP time l := ⟨_, rfl⟩
  rw [← hR]
  have HR : Hid (R = trk time zG l) := hR
  have HI : Hid (InVr _ _ _) := hin
  clear hR hin
  go_enter Tryz.func90, Tryz.ntmps90
  go_wp2_with fail
  have K0 : TrB2 w (((w.alloc (.cells #[.int .i64 id, .slice p l.length cap] 66)).alloc (.cells #[.int .i64 0, .bool false, .int .i64 0, .int .i64 0, .string em, .slice none 0 0] 131)).alloc (.cells #[.int .i64 0, .bool true, .int .i64 0, .int .i64 0, .string em, .slice p l.length cap] 131)) zG (.slice p l.length cap) := by
    refine ⟨by (repeat (first | (with_reducible exact Below.refl _ _) | (with_reducible assumption) | (with_reducible apply below_drewN) | (with_reducible apply Below.drew) | ((with_reducible refine Below.setCell ?_ ?_ _); rotate_left; focus (first | (simp; done) | (simp; omega) | omega)) | ((with_reducible refine Below.alloc ?_ ?_ _); rotate_left; focus (first | (simp; done) | (simp; omega) | omega)))), ?_, ?_⟩
    · rw [heap_alloc_old _ _ (by simp)]
      have := heap_alloc_new (w.alloc (.cells #[.int .i64 id, .slice p l.length cap] 66)) (.cells #[.int .i64 0, .bool false, .int .i64 0, .int .i64 0, .string em, .slice none 0 0] 131)
      rw [heap_size_alloc] at this; exact this
    · have := heap_alloc_new ((w.alloc (.cells #[.int .i64 id, .slice p l.length cap] 66)).alloc (.cells #[.int .i64 0, .bool false, .int .i64 0, .int .i64 0, .string em, .slice none 0 0] 131)) (.cells #[.int .i64 0, .bool true, .int .i64 0, .int .i64 0, .string em, .slice p l.length cap] 131)
      rw [heap_size_alloc, heap_size_alloc] at this; exact this
  generalize (((w.alloc (.cells #[.int .i64 id, .slice p l.length cap] 66)).alloc (.cells #[.int .i64 0, .bool false, .int .i64 0, .int .i64 0, .string em, .slice none 0 0] 131)).alloc (.cells #[.int .i64 0, .bool true, .int .i64 0, .int .i64 0, .string em, .slice p l.length cap] 131)) = W0 at K0 ⊢
  go_loopw [13] (fun u wr => ∃ (cur : Ver) (r : List Ver) (p' : Option Addr) (c' : Nat), R = trk time cur r ∧ TrB2 w wr cur (.slice p' r.length c') ∧ InVr w p' r ∧ r.length ≤ c' ∧ r.length ≤ 1048576) (fun _ wr => lenOf (wr.cell? ⟨w.heap.size + 2, 5, none⟩))
  case atStart => exact ⟨zG, l, p, cap, HR.out, K0, HI.out, hcap, hl⟩
  case round =>
    obtain ⟨cur, r, p', c', hall, K, hin, hc, hrl⟩ := hrel
    obtain ⟨t0, t1, t2, t3, t4, t5⟩ := six K.tb
    have hs := fun o => soft K.tb o
    clear K0 HI HR
    cases r with
    | nil =>
      have HF : Hid (R = (cur, [])) := hall
      have hbw := K.bel
      obtain ⟨q0, q1, q2, q3, q4, q5⟩ := six K.rb
      have hq := fun o => soft K.rb o
      clear hall hin hc
      simp only [List.length_nil] at t5
      go_wp2_with fail
      refine bodyPost_ret (v := .agg #[.int .i64 cur.tm, .bool cur.gone, .int .i64 cur.doc.k, .int .i64 cur.doc.n, .string cur.doc.t, .slice p' 0 c']) (by simp [results, Tryz.results90, go_sem, *]) rfl ⟨⟨p', c', by rw [HF.out]; rfl, by rw [HF.out]; exact .inl rfl, by rw [HF.out]; exact Nat.zero_le _⟩, ?_⟩
      (repeat (first | (with_reducible exact Below.refl _ _) | (with_reducible assumption) | (with_reducible apply below_drewN) | (with_reducible apply Below.drew) | ((with_reducible refine Below.setCell ?_ ?_ _); rotate_left; focus (first | (simp; done) | (simp; omega) | omega)) | ((with_reducible refine Below.alloc ?_ ?_ _); rotate_left; focus (first | (simp; done) | (simp; omega) | omega))))
    | cons v r' =>
      rcases hin.step K.bel with h0 | ⟨b, off, rfl, hbl, hcell⟩
      · simp at h0
      obtain ⟨x0, x1, x2, x3, x4⟩ := hcell 0 (by simp)
      simp only [List.getElem_cons_zero, Nat.zero_mul, Nat.add_zero] at x0 x1 x2 x3 x4
      have hlp : (0 : Int) < ((v :: r').length : Int) := by simp
      have hlr : (v :: r').length = r'.length + 1 := rfl
      by_cases hle : v.tm ≤ time
      · rw [trk_yes time cur v r' hle] at hall
        have HA : Hid (R = trk time v r') := hall
        have hbw := K.bel
        clear hall hcell
        go_wp2_with fail
        go_region
        have hin2 : InVr w (if c' = 1 then some ⟨b, off, none⟩ else some ⟨b, off + 5, none⟩) r' := by
          have hc3 : r'.length + 1 ≤ c' := hc
          by_cases h1 : c' = 1
          · rw [if_pos h1]; exact .inl (by omega)
          · rw [if_neg h1]; exact InVr.tail hin
        have hc3 : r'.length ≤ c' - 1 := by have : r'.length + 1 ≤ c' := hc; omega
        have hl3 : r'.length ≤ 1048576 := by have : r'.length + 1 ≤ 1048576 := hrl; omega
        have K2 := (K.put v (.slice (if c' = 1 then some ⟨b, off, none⟩ else some ⟨b, off + 5, none⟩) r'.length (c' - 1))).drew
        go_wp2_with fail
        go_roundw
        case rel => exact ⟨v, r', _, c' - 1, HA.out, K2, hin2, hc3, hl3⟩
        case measure =>
          have e1 := (six K2.tb).2.2.2.2.2
          show lenOf (World.cell? _ ⟨w.heap.size + 2, 5, none⟩) < _
          rw [t5]
          refine Nat.lt_of_le_of_lt (Nat.le_of_eq (congrArg lenOf e1)) ?_
          show r'.length < (v :: r').length
          simp
      · rw [trk_no time cur v r' hle] at hall
        have HF : Hid (R = (cur, v :: r')) := hall
        have hbw := K.bel
        obtain ⟨q0, q1, q2, q3, q4, q5⟩ := six K.rb
        have hq := fun o => soft K.rb o
        have HIN : Hid (InVr _ _ _) := hin
        have hc2 : (v :: r').length ≤ c' := hc
        clear hall hcell hin
        obtain ⟨N, hN⟩ : ∃ N, N = (v :: r').length := ⟨_, rfl⟩
        rw [← hN] at t5 hlp hc2
        go_wp2_with fail
        refine bodyPost_ret (v := .agg #[.int .i64 cur.tm, .bool cur.gone, .int .i64 cur.doc.k, .int .i64 cur.doc.n, .string cur.doc.t, .slice (some ⟨b, off, none⟩) N c']) (by simp [results, Tryz.results90, go_sem, *]) rfl ⟨⟨_, c', by rw [HF.out, hN], by rw [HF.out]; exact HIN.out, by rw [HF.out]; exact hc⟩, ?_⟩
        (repeat (first | (with_reducible exact Below.refl _ _) | (with_reducible assumption) | (with_reducible apply below_drewN) | (with_reducible apply Below.drew) | ((with_reducible refine Below.setCell ?_ ?_ _); rotate_left; focus (first | (simp; done) | (simp; omega) | omega)) | ((with_reducible refine Below.alloc ?_ ?_ _); rotate_left; focus (first | (simp; done) | (simp; omega) | omega))))

end Go.Proofs.YtpfbepbmiillbaaGreatDoor.Co

/- Copies of versions, and where a chain stands: what the program answers. -/
namespace Go.Proofs.YtpfbepbmiillbaaGreatDoor.Co
open Go.RowKit Tr
set_option linter.unusedVariables false

/-- A version's five cells in the first new block, five empty ones that may be written in the second. -/
structure OwnVe (w W : World) (t : Ver) : Prop where
  bel : Below w.heap.size w W
  lt : w.heap.size + 1 < W.heap.size
  cb : W.heap[w.heap.size]? = some (.cells #[.int .i64 t.tm, .bool t.gone, .int .i64 t.doc.k, .int .i64 t.doc.n, .string t.doc.t] 70)
  db : W.heap[w.heap.size + 1]? = some (.cells #[.int .i64 0, .bool false, .int .i64 0, .int .i64 0, .string em] 70)
theorem OwnVe.start (w : World) (t : Ver) : OwnVe w ((w.alloc (.cells #[.int .i64 t.tm, .bool t.gone, .int .i64 t.doc.k, .int .i64 t.doc.n, .string t.doc.t] 70)).alloc (.cells #[.int .i64 0, .bool false, .int .i64 0, .int .i64 0, .string em] 70)) t := by
  refine ⟨((Below.refl _ _).alloc (Nat.le_refl _) _).alloc (by simp) _, by simp, ?_, ?_⟩
  · rw [heap_alloc_old _ _ (by simp)]; exact heap_alloc_new _ _
  · have := heap_alloc_new (w.alloc (.cells #[.int .i64 t.tm, .bool t.gone, .int .i64 t.doc.k, .int .i64 t.doc.n, .string t.doc.t] 70)) (.cells #[.int .i64 0, .bool false, .int .i64 0, .int .i64 0, .string em] 70)
    rw [heap_size_alloc] at this; exact this
theorem OwnVe.step {w W W' : World} {t : Ver} (h : OwnVe w W t) (hb : Below W.heap.size W W') : OwnVe w W' t :=
  have hl : w.heap.size < W.heap.size := Nat.lt_of_succ_lt h.lt
  ⟨h.bel.trans (hb.mono h.bel.size), Nat.lt_of_lt_of_le h.lt hb.size, (hb.block _ hl).trans h.cb, (hb.block _ h.lt).trans h.db⟩
theorem keepVe {w W W' : World} {t : Ver} (h : OwnVe w W t) (hb : Below (w.heap.size + 1) W W') : W'.cell? ⟨w.heap.size, 0, none⟩ = some (.int .i64 t.tm) ∧ W'.cell? ⟨w.heap.size, 1, none⟩ = some (.bool t.gone) ∧ W'.cell? ⟨w.heap.size, 2, none⟩ = some (.int .i64 t.doc.k) ∧ W'.cell? ⟨w.heap.size, 3, none⟩ = some (.int .i64 t.doc.n) ∧ W'.cell? ⟨w.heap.size, 4, none⟩ = some (.string t.doc.t) :=
  have hl : w.heap.size < w.heap.size + 1 := Nat.lt_succ_self _
  have hc := five h.cb
  ⟨(hb.cell hl).trans hc.1, (hb.cell hl).trans hc.2.1, (hb.cell hl).trans hc.2.2.1, (hb.cell hl).trans hc.2.2.2.1, (hb.cell hl).trans hc.2.2.2.2⟩

set_option maxRecDepth 4000 in
set_option maxHeartbeats 4000000 in
theorem ownVer_any (t : Ver) (w : World) (hs : t.doc.t.size ≤ 1048576) :
    Calls Tryz.prog 91 #[.agg #[.int .i64 t.tm, .bool t.gone, .int .i64 t.doc.k, .int .i64 t.doc.n, .string t.doc.t]] w fun e w' => e = .returned (.agg #[.int .i64 t.tm, .bool t.gone, .int .i64 t.doc.k, .int .i64 t.doc.n, .string t.doc.t]) ∧ Below w.heap.size w w' := by
  have X0 := OwnVe.start w t
  have HV : Hid (∀ W : World, Calls _ _ _ W _) := fun W => ownValue_any t.doc.k t.doc.n t.doc.t W hs
  clear hs
  go_enter Tryz.func91, Tryz.ntmps91
  go_wp2_with fail
  generalize (w.alloc (.cells #[.int .i64 t.tm, .bool t.gone, .int .i64 t.doc.k, .int .i64 t.doc.n, .string t.doc.t] 70)).alloc (.cells #[.int .i64 0, .bool false, .int .i64 0, .int .i64 0, .string em] 70) = W0 at X0 ⊢
  obtain ⟨a0, a1, a2, a3, a4⟩ := five X0.cb
  have hlt0 := X0.lt
  have hltw : w.heap.size < W0.heap.size := Nat.lt_of_succ_lt hlt0
  have hbw := X0.bel
  go_region_held3 (fun w0 => w0.cell? ⟨w.heap.size, 0, none⟩ = some (.int .i64 t.tm) ∧ w0.cell? ⟨w.heap.size, 1, none⟩ = some (.bool t.gone) ∧ w0.cell? ⟨w.heap.size, 2, none⟩ = some (.int .i64 t.doc.k) ∧ w0.cell? ⟨w.heap.size, 3, none⟩ = some (.int .i64 t.doc.n) ∧ w0.cell? ⟨w.heap.size, 4, none⟩ = some (.string t.doc.t)) ((refine keepVe X0 ?_; (repeat (first | (with_reducible exact Below.refl _ _) | (with_reducible assumption) | (with_reducible apply below_drewN) | (with_reducible apply Below.drew) | ((with_reducible refine Below.setCell ?_ ?_ _); rotate_left; focus (first | (simp; done) | (simp; omega) | omega)) | ((with_reducible refine Below.alloc ?_ ?_ _); rotate_left; focus (first | (simp; done) | (simp; omega) | omega)))))) ((go_at_call 125; refine (HV.out _).mono ?_; rintro e w2 ⟨rfl, hb⟩; have hB2 : Below W0.heap.size W0 w2 := (show Below W0.heap.size W0 _ by (repeat (first | (with_reducible exact Below.refl _ _) | (with_reducible assumption) | (with_reducible apply below_drewN) | (with_reducible apply Below.drew) | ((with_reducible refine Below.setCell ?_ ?_ _); rotate_left; focus (first | (simp; done) | (simp; omega) | omega)) | ((with_reducible refine Below.alloc ?_ ?_ _); rotate_left; focus (first | (simp; done) | (simp; omega) | omega))))).trans (hb.mono (by first | (simp; done) | (simp; omega) | omega)); have hB2' : Below (w.heap.size + 1) W0 w2 := hB2.mono (by omega); have hzb2 := hB2.size; have hn2 := Nat.lt_of_lt_of_le hltw hzb2; have ho2 := Nat.lt_of_lt_of_le hlt0 hzb2; have Y2 := X0.step hB2; have k0 := (five Y2.db).1; have k1 := (five Y2.db).2.1; have k2 := (five Y2.db).2.2.1; have k3 := (five Y2.db).2.2.2.1; have k4 := (five Y2.db).2.2.2.2; have m0 := soft Y2.db 0; have m1 := soft Y2.db 1; have m2 := soft Y2.db 2; have m3 := soft Y2.db 3; have m4 := soft Y2.db 4; clear hb Y2))
  all_goals
    try go_wp2_with fail
    refine bodyPost_ret (v := .agg #[.int .i64 t.tm, .bool t.gone, .int .i64 t.doc.k, .int .i64 t.doc.n, .string t.doc.t]) (by simp [results, Tryz.results91, go_sem, *]) rfl ⟨rfl, ?_⟩
    have hbb := hbw.trans (hB2.mono hbw.size)
    (repeat (first | (with_reducible exact Below.refl _ _) | (with_reducible assumption) | (with_reducible apply below_drewN) | (with_reducible apply Below.drew) | ((with_reducible refine Below.setCell ?_ ?_ _); rotate_left; focus (first | (simp; done) | (simp; omega) | omega)) | ((with_reducible refine Below.alloc ?_ ?_ _); rotate_left; focus (first | (simp; done) | (simp; omega) | omega))))

/-- Chains that rise. -/
def RiseC (l : List Chn) : Prop := ∀ i j (hi : i < l.length) (hj : j < l.length), i < j → l[i].id < l[j].id
theorem chsB_first : ∀ (l : List Chn) (last : Int), chsB last l = true → ∀ c ∈ l, last < c.id
  | [], _, _, c, hc => by simp at hc
  | x :: r, last, h, c, hc => by
    rw [chsB] at h
    simp only [Bool.and_eq_true, decide_eq_true_eq] at h
    obtain ⟨a1, a2, a3, a4⟩ := h
    rcases List.mem_cons.mp hc with rfl | hc
    · exact a1
    · have := chsB_first r x.id a4 c hc; omega
theorem riseC_of : ∀ (l : List Chn) (last : Int), chsB last l = true → RiseC l
  | [], _, _ => fun i j hi => by simp at hi
  | x :: r, last, h => by
    rw [chsB] at h
    simp only [Bool.and_eq_true, decide_eq_true_eq] at h
    obtain ⟨a1, a2, a3, a4⟩ := h
    have ih := riseC_of r x.id a4
    have hf := chsB_first r x.id a4
    intro i j hi hj hij
    cases j with
    | zero => omega
    | succ j =>
      have hj' : j < r.length := by simpa using hj
      cases i with
      | zero => exact hf r[j] (List.getElem_mem _)
      | succ i => exact ih i j (by simpa using hi) hj' (by omega)
/-- Where the chain of an id stands, or would, and whether it does. -/
structure PlaceC (l : List Chn) (id : Int) (i : Nat) (b : Bool) : Prop where
  le : i ≤ l.length
  lo : ∀ q (h : q < l.length), q < i → l[q].id < id
  hi : ∀ q (h : q < l.length), i ≤ q → id ≤ l[q].id
  at_ : b = true ↔ ∃ h : i < l.length, l[i].id = id
def findC (id : Int) (l : List Chn) : Option Chn := l.find? (fun x => decide (x.id = id))
theorem findC_none (id : Int) : ∀ l : List Chn, (∀ x ∈ l, x.id ≠ id) → findC id l = none
  | [], _ => rfl
  | x :: r, h => by
    show List.find? _ (x :: r) = none
    rw [List.find?_cons, decide_eq_false (h x (by simp))]
    exact findC_none id r (fun y hy => h y (by simp [hy]))
theorem findC_at (id : Int) : ∀ (l : List Chn) (i : Nat) (hi : i < l.length), (∀ q (h : q < l.length), q < i → l[q].id ≠ id) → l[i].id = id → findC id l = some l[i]
  | x :: r, 0, _, _, e => by
    show List.find? _ (x :: r) = _
    rw [List.find?_cons, decide_eq_true (show x.id = id from e)]; rfl
  | x :: r, i + 1, hi, hlo, e => by
    show List.find? _ (x :: r) = _
    rw [List.find?_cons, decide_eq_false (show ¬ x.id = id from hlo 0 (by simp) (by omega))]
    exact findC_at id r i (by simpa using hi) (fun q h hq => hlo (q + 1) (by simpa using h) (by omega)) e
theorem PlaceC.some {l : List Chn} {id : Int} {i : Nat} (h : PlaceC l id i true) : ∃ hi : i < l.length, l[i].id = id ∧ findC id l = some l[i] := by
  obtain ⟨hi, e⟩ := h.at_.1 rfl
  exact ⟨hi, e, findC_at id l i hi (fun q hq hlt => by have := h.lo q hq hlt; omega) e⟩
theorem PlaceC.none {l : List Chn} {id : Int} {i : Nat} (hr : RiseC l) (h : PlaceC l id i false) : findC id l = none := by
  apply findC_none
  intro x hx e
  obtain ⟨q, hq, rfl⟩ := List.getElem_of_mem hx
  have hlt : ¬ q < i := fun hlt => by have := h.lo q hq hlt; omega
  have hi : i < l.length := by omega
  have h1 := h.hi i hi (Nat.le_refl _)
  have hne : l[i].id ≠ id := fun e2 => by have := h.at_.2 ⟨hi, e2⟩; cases this
  rcases Nat.lt_or_ge i q with hlq | hge
  · have := hr i q hi hq hlq; omega
  · obtain rfl : q = i := by omega
    exact hne e
/-- What the search answers. -/
structure PlR (l : List Chn) (id : Int) (e : Ending) : Prop where
  out : ∃ (i : Nat) (b : Bool), e = .returned (.tuple #[.int .i64 (i : Nat), .bool b]) ∧ PlaceC l id i b
theorem cI_neg (x y : Int) : decide (cI x y < 0) = decide (x < y) := by
  unfold cI Lib.compareInt
  rw [decide_eq_decide]
  constructor <;> intro h <;> (repeat' split at *) <;> omega
end Go.Proofs.YtpfbepbmiillbaaGreatDoor.Co

/- The newest version of a chain: what the program and the specification answer. -/
namespace Go.Proofs.YtpfbepbmiillbaaGreatDoor.Co
open Go.RowKit Tr
set_option linter.unusedVariables false

/-- A row of chains at a block's head, whose rows of versions have their room. -/
structure ReadCc (w : World) (g : Nat) (f : List Chn) : Prop where
  lt : g < w.heap.size
  cells : ∀ i (h : i < f.length), w.cell? ⟨g, i * 2, none⟩ = some (.int .i64 f[i].id) ∧ ∃ p cap, w.cell? ⟨g, i * 2 + 1, none⟩ = some (.slice p f[i].vs.length cap) ∧ f[i].vs.length ≤ cap ∧ InVr w p f[i].vs
theorem ReadCc.next {w w' : World} {g : Nat} {f : List Chn} (h : ReadCc w g f) (hb : Below w.heap.size w w') : ReadCc w' g f :=
  ⟨Nat.lt_of_lt_of_le h.lt hb.size, fun i hi => by
    obtain ⟨h0, p, cap, hc, hl, hr⟩ := h.cells i hi
    exact ⟨(hb.cell h.lt).trans h0, p, cap, (hb.cell h.lt).trans hc, hl, hr.step hb⟩⟩
theorem ReadCc.read {w : World} {g : Nat} {f : List Chn} (h : ReadCc w g f) : ReadCh w g f :=
  ⟨h.lt, fun i hi => by
    obtain ⟨h0, p, cap, hc, _, hr⟩ := h.cells i hi
    exact ⟨h0, p, cap, hc, hr⟩⟩
theorem ReadCc.inCh {w : World} {g : Nat} {f : List Chn} (h : ReadCc w g f) : InCh w (some ⟨g, 0, none⟩) f := InVr.rowOf h.read
theorem OwnVr.room {w : World} {base : Nat} {v : Value} {l : List Ver} (h : OwnVr w base v l) : ∃ p cap, v = .slice p l.length cap ∧ l.length ≤ cap ∧ InVr w p l := by
  have h' := h
  obtain ⟨_, h2⟩ := h
  rcases h2 with ⟨h2, h3⟩ | ⟨g, cap, cur, hv, _, _, hc, _⟩
  · have h4 := List.length_eq_zero_iff.1 h3
    subst h4
    exact ⟨none, 0, h2, Nat.zero_le _, .inl rfl⟩
  · obtain ⟨p, c, e1, e2⟩ := h'.inVr
    rw [hv] at e1
    injection e1 with a1 a2 a3
    subst a3
    exact ⟨p, cap, by rw [hv, a1], hc, e2⟩
theorem OwnCh.readCc {w : World} {base g cap n : Nat} {f : List Chn} (h : OwnCh w base (.slice (some ⟨g, 0, none⟩) n cap) f) : ReadCc w g f := by
  obtain ⟨vs, xs, h⟩ := h
  exact ⟨(h.row.lt g rfl).2, fun i hi => by
    obtain ⟨a0, a1⟩ := h.at_ i hi hi
    obtain ⟨p, c, e1, e3, e2⟩ := OwnVr.room (h.ents i hi hi)
    exact ⟨owns_cell h.row _ _ a0, p, c, by rw [← e1]; exact owns_cell h.row _ _ a1, e3, e2⟩⟩
/-- A collection that can be read, with its room. -/
structure RdC (w : World) (g1 g2 : Nat) (c : Col) : Prop where
  ch : ReadCc w g1 c.chs
  df : RowDf w (some ⟨g2, 0, none⟩) c.dfs
theorem RdC.next {w w' : World} {g1 g2 : Nat} {c : Col} (h : RdC w g1 g2 c) (hb : Below w.heap.size w w') : RdC w' g1 g2 c := ⟨h.ch.next hb, h.df.next hb⟩
theorem RdC.rd {w : World} {g1 g2 : Nat} {c : Col} (h : RdC w g1 g2 c) : RdCol w g1 g2 c := ⟨.inr ⟨g1, rfl, h.ch.read⟩, h.df⟩
theorem rdC_of {w : World} {lo mid hi g1 g2 n m c1 c2 : Nat} {c : Col} (h1 : OwnChH w lo mid (.slice (some ⟨g1, 0, none⟩) n c1) c.chs) (h2 : OwnDfH w mid hi (.slice (some ⟨g2, 0, none⟩) m c2) c.dfs) : RdC w g1 g2 c := ⟨h1.own.readCc, h2.own.rowDf⟩

/-- The newest version of an id, and a code. -/
def lastR (c : Col) (id : Int) : Ver × Int := if collB c = true then (match findC id c.chs with | some x => ((trP 10000 x.vs).1, 0) | none => (zVr, 5)) else (zVr, 1)
theorem lastR_bad (c : Col) (id : Int) (h : collB c = false) : lastR c id = (zVr, 1) := by unfold lastR; rw [h]; rfl
theorem lastR_none (c : Col) (id : Int) (h : collB c = true) (hf : findC id c.chs = none) : lastR c id = (zVr, 5) := by unfold lastR; rw [if_pos h, hf]
theorem lastR_some (c : Col) (id : Int) (x : Chn) (h : collB c = true) (hf : findC id c.chs = some x) : lastR c id = ((trP 10000 x.vs).1, 0) := by unfold lastR; rw [if_pos h, hf]
theorem trP_now {id : Int} {l : List Ver} (h : versB id 0 l = true) (hl : 1 ≤ l.length) : (trP 10000 l).1 ∈ l ∧ 1 ≤ (trP 10000 l).1.tm := by
  cases l with
  | nil => simp at hl
  | cons v r =>
    have h' := h
    rw [versB] at h
    simp only [Bool.and_eq_true, decide_eq_true_eq, timeB] at h
    obtain ⟨a1, a2, a3, a4⟩ := h
    have e : trP 10000 (v :: r) = trk 10000 v r := trk_yes 10000 zG v r a2.2
    have hm : (trP 10000 (v :: r)).1 ∈ v :: r := by
      rw [e]
      rcases (trk_mem 10000 r v).1 with h | h
      · rw [h]; simp
      · simp [h]
    have := versB_rise id (v :: r) 0 h' _ hm
    exact ⟨hm, by omega⟩
set_option maxRecDepth 4000 in
set_option maxHeartbeats 1000000 in
theorem trackNow_any (id : Int) (p : Option Addr) (cap : Nat) (l : List Ver) (w : World) (hin : InVr w p l) (hl : l.length ≤ 1048576) (hcap : l.length ≤ cap) :
    Calls Tryz.prog 78 #[.agg #[.int .i64 id, .slice p l.length cap]] w fun e w' => (∃ p' n' c', e = .returned (.agg #[.int .i64 (trP 10000 l).1.tm, .bool (trP 10000 l).1.gone, .int .i64 (trP 10000 l).1.doc.k, .int .i64 (trP 10000 l).1.doc.n, .string (trP 10000 l).1.doc.t, .slice p' n' c'])) ∧ Below w.heap.size w w' := by
  have hb0 : Below w.heap.size w ((w.alloc (.cells #[.int .i64 id, .slice p l.length cap] 66)).alloc (.cells #[.int .i64 0, .bool false, .int .i64 0, .int .i64 0, .string em, .slice none 0 0] 131)) := ((Below.refl _ _).alloc (Nat.le_refl _) _).alloc (by simp) _
  have hrb : ((w.alloc (.cells #[.int .i64 id, .slice p l.length cap] 66)).alloc (.cells #[.int .i64 0, .bool false, .int .i64 0, .int .i64 0, .string em, .slice none 0 0] 131)).heap[w.heap.size + 1]? = some (.cells #[.int .i64 0, .bool false, .int .i64 0, .int .i64 0, .string em, .slice none 0 0] 131) := by
    have := heap_alloc_new (w.alloc (.cells #[.int .i64 id, .slice p l.length cap] 66)) (.cells #[.int .i64 0, .bool false, .int .i64 0, .int .i64 0, .string em, .slice none 0 0] 131)
    rw [heap_size_alloc] at this; exact this
  have HC : Hid (Calls _ _ _ _ _) := trackAt_any id 10000 p cap l _ (hin.step hb0) hl hcap
  obtain ⟨R, hR⟩ : ∃ R, R = trP 10000 l := ⟨_, rfl⟩
  rw [← hR] at HC ⊢
  clear hR hin
  go_enter Tryz.func78, Tryz.ntmps78
  go_wp2_with fail
  generalize (w.alloc (.cells #[.int .i64 id, .slice p l.length cap] 66)).alloc (.cells #[.int .i64 0, .bool false, .int .i64 0, .int .i64 0, .string em, .slice none 0 0] 131) = W0 at hb0 hrb HC ⊢
  have hl0 : w.heap.size + 1 < W0.heap.size := by
    rcases Nat.lt_or_ge (w.heap.size + 1) W0.heap.size with h | h
    · exact h
    · rw [Array.getElem?_eq_none h] at hrb; cases hrb
  refine HC.out.mono ?_
  rintro e w1 ⟨⟨p', c', rfl, _, _⟩, hb⟩
  have hrb1 := (hb.block _ hl0).trans hrb
  obtain ⟨q0, q1, q2, q3, q4, q5⟩ := six hrb1
  have hq := fun o => soft hrb1 o
  have hbw := hb0.trans (hb.mono hb0.size)
  clear hb HC
  go_wp2_with fail
  refine bodyPost_ret (v := .agg #[.int .i64 R.1.tm, .bool R.1.gone, .int .i64 R.1.doc.k, .int .i64 R.1.doc.n, .string R.1.doc.t, .slice p' R.2.length c']) (by simp [results, Tryz.results78, go_sem, *]) rfl ⟨⟨p', _, c', rfl⟩, ?_⟩
  (repeat (first | (with_reducible exact Below.refl _ _) | (with_reducible assumption) | (with_reducible apply below_drewN) | (with_reducible apply Below.drew) | ((with_reducible refine Below.setCell ?_ ?_ _); rotate_left; focus (first | (simp; done) | (simp; omega) | omega)) | ((with_reducible refine Below.alloc ?_ ?_ _); rotate_left; focus (first | (simp; done) | (simp; omega) | omega))))

theorem szVr_of {c : Col} (h : SzCol c) {x : Chn} (hx : x ∈ c.chs) {v : Ver} (hv : v ∈ x.vs) : v.doc.t.size ≤ 1048576 := (h.chs x hx).2 v hv
end Go.Proofs.YtpfbepbmiillbaaGreatDoor.Co
