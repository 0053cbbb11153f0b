/- How many versions a collection has: what the program and the specification answer. -/
import Derived.Test.YtpfbepbmiillbaaGreatDoorDefOR
import Derived.Test.YtpfbepbmiillbaaGreatDoorDocBR
import Derived.Test.YtpfbepbmiillbaaGreatDoorOwnR
import Derived.Deep.RegionHeld3
import Derived.Test.YtpfbepbmiillbaaGreatDoorRowVR
namespace Go.Proofs.YtpfbepbmiillbaaGreatDoor.Co
open Go.RowKit Tr
set_option linter.unusedVariables false

theorem chsB_all : ∀ (l : List Chn) (last : Int), chsB last l = true → ∀ c ∈ l, topB c.id = true ∧ chnB c = true
  | [], _, _, c, hc => by simp at hc
  | x :: r, last, h, c, hc => by
    rw [chsB] at h
    simp only [Bool.and_eq_true] at h
    obtain ⟨_, a2, a3, a4⟩ := h
    rcases List.mem_cons.mp hc with rfl | hc
    · exact ⟨a2, a3⟩
    · exact chsB_all r x.id a4 c hc
theorem collB_parts {c : Col} (h : collB c = true) : shortB c.name = true ∧ dfsB c.dfs = true ∧ chsB (-1) c.chs = true ∧ c.chs.length ≤ 20 ∧ c.dfs.length ≤ 3 ∧ ∀ x ∈ c.chs, topB x.id = true ∧ 1 ≤ x.vs.length ∧ x.vs.length ≤ 12 ∧ versB x.id 0 x.vs = true := by
  unfold collB at h
  simp only [Bool.and_eq_true] at h
  obtain ⟨h1, h2, h3⟩ := h
  have hl := chsB_len c.chs (-1) (by omega) (by omega) h3
  have hd : c.dfs.length ≤ 3 := by unfold dfsB at h2; simp only [Bool.and_eq_true, decide_eq_true_eq] at h2; exact h2.1
  refine ⟨h1, h2, h3, by omega, hd, fun x hx => ?_⟩
  obtain ⟨a, b⟩ := chsB_all c.chs (-1) h3 x hx
  unfold chnB at b
  simp only [Bool.and_eq_true, decide_eq_true_eq] at b
  exact ⟨a, b.1.1, b.1.2, b.2⟩
end Go.Proofs.YtpfbepbmiillbaaGreatDoor.Co

/- A chain as it stood at some time: what the program and the specification answer. -/
namespace Go.Proofs.YtpfbepbmiillbaaGreatDoor.Co
open Go.RowKit Tr
set_option linter.unusedVariables false

/-- Ahead of its first version a document is as good as gone. -/
def zG : Ver := ⟨0, true, ⟨0, 0, em⟩⟩
/-- The newest version up to a time, and those behind it. -/
def trk (time : Int) : Ver → List Ver → Ver × List Ver
  | cur, [] => (cur, [])
  | cur, v :: r => if v.tm ≤ time then trk time v r else (cur, v :: r)
def trP (time : Int) (l : List Ver) : Ver × List Ver := trk time zG l
theorem trk_yes (time : Int) (cur v : Ver) (r : List Ver) (h : v.tm ≤ time) : trk time cur (v :: r) = trk time v r := by rw [trk, if_pos h]
theorem trk_no (time : Int) (cur v : Ver) (r : List Ver) (h : ¬ v.tm ≤ time) : trk time cur (v :: r) = (cur, v :: r) := by rw [trk, if_neg h]
/-- The last version up to a time, wherever it stands. -/
def atS (time : Int) (cur : Ver) (l : List Ver) : Ver := l.foldl (fun out v => if v.tm ≤ time then v else out) cur
theorem atS_later (time : Int) : ∀ (l : List Ver) (cur : Ver), (∀ v ∈ l, ¬ v.tm ≤ time) → atS time cur l = cur
  | [], _, _ => rfl
  | v :: r, cur, h => by
    show atS time (if v.tm ≤ time then v else cur) r = cur
    rw [if_neg (h v (by simp))]
    exact atS_later time r cur (fun u hu => h u (by simp [hu]))
theorem versB_rise (id : Int) : ∀ (l : List Ver) (last : Int), versB id last l = true → ∀ v ∈ l, last < v.tm
  | [], _, _, v, hv => by simp at hv
  | x :: r, last, h, v, hv => by
    rw [versB] at h
    simp only [Bool.and_eq_true, decide_eq_true_eq] at h
    obtain ⟨a1, a2, a3, a4⟩ := h
    rcases List.mem_cons.mp hv with rfl | hv
    · exact a1
    · have := versB_rise id r x.tm a4 v hv; omega
theorem atS_trk (id time : Int) : ∀ (l : List Ver) (last : Int) (cur : Ver), versB id last l = true → atS time cur l = (trk time cur l).1
  | [], _, _, _ => rfl
  | v :: r, last, cur, h => by
    have hv := h
    rw [versB] at h
    simp only [Bool.and_eq_true, decide_eq_true_eq] at h
    obtain ⟨a1, a2, a3, a4⟩ := h
    show atS time (if v.tm ≤ time then v else cur) r = _
    by_cases hc : v.tm ≤ time
    · rw [if_pos hc, trk_yes time cur v r hc]
      exact atS_trk id time r v.tm v a4
    · rw [if_neg hc, trk_no time cur v r hc]
      exact atS_later time r cur (fun u hu => by have := versB_rise id r v.tm a4 u hu; omega)
theorem trk_mem (time : Int) : ∀ (l : List Ver) (cur : Ver), ((trk time cur l).1 = cur ∨ (trk time cur l).1 ∈ l) ∧ ∀ v ∈ (trk time cur l).2, v ∈ l
  | [], cur => ⟨.inl rfl, fun v hv => hv⟩
  | x :: r, cur => by
    by_cases hc : x.tm ≤ time
    · rw [trk_yes time cur x r hc]
      obtain ⟨h1, h2⟩ := trk_mem time r x
      refine ⟨.inr ?_, fun v hv => by simp [h2 v hv]⟩
      rcases h1 with h1 | h1
      · rw [h1]; simp
      · simp [h1]
    · rw [trk_no time cur x r hc]
      exact ⟨.inl rfl, fun v hv => hv⟩
theorem InVr.tail {w : World} {b off : Nat} {v : Ver} {r : List Ver} (h : InVr w (some ⟨b, off, none⟩) (v :: r)) : InVr w (some ⟨b, off + 5, none⟩) r := by
  rcases h with h | ⟨b', off', e, hlt, hc⟩
  · simp at h
  · injection e with e; injection e with e1 e2; subst e1; subst e2
    refine .inr ⟨b, off + 5, rfl, hlt, fun i hi => ?_⟩
    have := hc (i + 1) (by simp; omega)
    simp only [List.getElem_cons_succ] at this
    rw [show off + 5 + i * 5 = off + (i + 1) * 5 by omega]
    exact this
/-- The track that is being made, and the answer's own place. -/
structure TrB2 (w W : World) (cur : Ver) (s : Value) : Prop where
  bel : Below w.heap.size w W
  rb : W.heap[w.heap.size + 1]? = some (.cells #[.int .i64 0, .bool false, .int .i64 0, .int .i64 0, .string em, .slice none 0 0] 131)
  tb : W.heap[w.heap.size + 2]? = some (.cells #[.int .i64 cur.tm, .bool cur.gone, .int .i64 cur.doc.k, .int .i64 cur.doc.n, .string cur.doc.t, s] 131)
theorem TrB2.put {w W : World} {cur : Ver} {s : Value} (h : TrB2 w W cur s) (v : Ver) (s' : Value) :
    TrB2 w ((((((W.setCell ⟨w.heap.size + 2, 0, none⟩ (.int .i64 v.tm)).setCell ⟨w.heap.size + 2, 1, none⟩ (.bool v.gone)).setCell ⟨w.heap.size + 2, 2, none⟩ (.int .i64 v.doc.k)).setCell ⟨w.heap.size + 2, 3, none⟩ (.int .i64 v.doc.n)).setCell ⟨w.heap.size + 2, 4, none⟩ (.string v.doc.t)).setCell ⟨w.heap.size + 2, 5, none⟩ s') v s' := by
  refine ⟨?_, ?_, ?_⟩
  · have hb := h.bel
    exact (((((hb.setCell (by show w.heap.size ≤ w.heap.size + 2; omega) _).setCell (by show w.heap.size ≤ w.heap.size + 2; omega) _).setCell (by show w.heap.size ≤ w.heap.size + 2; omega) _).setCell (by show w.heap.size ≤ w.heap.size + 2; omega) _).setCell (by show w.heap.size ≤ w.heap.size + 2; omega) _).setCell (by show w.heap.size ≤ w.heap.size + 2; omega) _
  · rw [set_other (by omega), set_other (by omega), set_other (by omega), set_other (by omega), set_other (by omega), set_other (by omega)]; exact h.rb
  · rw [set_same (set_same (set_same (set_same (set_same (set_same h.tb)))))]; rfl
theorem TrB2.drew {w W : World} {cur : Ver} {s : Value} (h : TrB2 w W cur s) : TrB2 w W.drew cur s := ⟨h.bel.drew, h.rb, h.tb⟩
def lenOf : Option Value → Nat
  | some (.slice _ n _) => n
  | _ => 0

set_option maxRecDepth 4000 in
set_option maxHeartbeats 1000000 in
theorem trackAt_any (id time : Int) (p : Option Addr) (cap : Nat) (l : List Ver) (w : World) (hin : InVr w p l) (hl : l.length ≤ 1048576) (hcap : l.length ≤ cap) :
    Calls Tryz.prog 90 #[.agg #[.int .i64 id, .slice p l.length cap], .int .i64 time] w fun e w' => (∃ p' c', e = .returned (.agg #[.int .i64 (trP time l).1.tm, .bool (trP time l).1.gone, .int .i64 (trP time l).1.doc.k, .int .i64 (trP time l).1.doc.n, .string (trP time l).1.doc.t, .slice p' (trP time l).2.length c']) ∧ InVr w p' (trP time l).2 ∧ (trP time l).2.length ≤ c') ∧ Below w.heap.size w w' := by
  obtain ⟨R, hR⟩ : ∃ R, R = trP time l := ⟨_, rfl⟩
  rw [← hR]
  have HR : Hid (R = trk time zG l) := hR
  have HI : Hid (InVr _ _ _) := hin
  clear hR hin
  go_enter Tryz.func90, Tryz.ntmps90
  go_wp2_with fail
  have K0 : TrB2 w (((w.alloc (.cells #[.int .i64 id, .slice p l.length cap] 66)).alloc (.cells #[.int .i64 0, .bool false, .int .i64 0, .int .i64 0, .string em, .slice none 0 0] 131)).alloc (.cells #[.int .i64 0, .bool true, .int .i64 0, .int .i64 0, .string em, .slice p l.length cap] 131)) zG (.slice p l.length cap) := by
    refine ⟨by (repeat (first | (with_reducible exact Below.refl _ _) | (with_reducible assumption) | (with_reducible apply below_drewN) | (with_reducible apply Below.drew) | ((with_reducible refine Below.setCell ?_ ?_ _); rotate_left; focus (first | (simp; done) | (simp; omega) | omega)) | ((with_reducible refine Below.alloc ?_ ?_ _); rotate_left; focus (first | (simp; done) | (simp; omega) | omega)))), ?_, ?_⟩
    · rw [heap_alloc_old _ _ (by simp)]
      have := heap_alloc_new (w.alloc (.cells #[.int .i64 id, .slice p l.length cap] 66)) (.cells #[.int .i64 0, .bool false, .int .i64 0, .int .i64 0, .string em, .slice none 0 0] 131)
      rw [heap_size_alloc] at this; exact this
    · have := heap_alloc_new ((w.alloc (.cells #[.int .i64 id, .slice p l.length cap] 66)).alloc (.cells #[.int .i64 0, .bool false, .int .i64 0, .int .i64 0, .string em, .slice none 0 0] 131)) (.cells #[.int .i64 0, .bool true, .int .i64 0, .int .i64 0, .string em, .slice p l.length cap] 131)
      rw [heap_size_alloc, heap_size_alloc] at this; exact this
  generalize (((w.alloc (.cells #[.int .i64 id, .slice p l.length cap] 66)).alloc (.cells #[.int .i64 0, .bool false, .int .i64 0, .int .i64 0, .string em, .slice none 0 0] 131)).alloc (.cells #[.int .i64 0, .bool true, .int .i64 0, .int .i64 0, .string em, .slice p l.length cap] 131)) = W0 at K0 ⊢
  go_loopw [13] (fun u wr => ∃ (cur : Ver) (r : List Ver) (p' : Option Addr) (c' : Nat), R = trk time cur r ∧ TrB2 w wr cur (.slice p' r.length c') ∧ InVr w p' r ∧ r.length ≤ c' ∧ r.length ≤ 1048576) (fun _ wr => lenOf (wr.cell? ⟨w.heap.size + 2, 5, none⟩))
  case atStart => exact ⟨zG, l, p, cap, HR.out, K0, HI.out, hcap, hl⟩
  case round =>
    obtain ⟨cur, r, p', c', hall, K, hin, hc, hrl⟩ := hrel
    obtain ⟨t0, t1, t2, t3, t4, t5⟩ := six K.tb
    have hs := fun o => soft K.tb o
    clear K0 HI HR
    cases r with
    | nil =>
      have HF : Hid (R = (cur, [])) := hall
      have hbw := K.bel
      obtain ⟨q0, q1, q2, q3, q4, q5⟩ := six K.rb
      have hq := fun o => soft K.rb o
      clear hall hin hc
      simp only [List.length_nil] at t5
      go_wp2_with fail
      refine bodyPost_ret (v := .agg #[.int .i64 cur.tm, .bool cur.gone, .int .i64 cur.doc.k, .int .i64 cur.doc.n, .string cur.doc.t, .slice p' 0 c']) (by simp [results, Tryz.results90, go_sem, *]) rfl ⟨⟨p', c', by rw [HF.out]; rfl, by rw [HF.out]; exact .inl rfl, by rw [HF.out]; exact Nat.zero_le _⟩, ?_⟩
      (repeat (first | (with_reducible exact Below.refl _ _) | (with_reducible assumption) | (with_reducible apply below_drewN) | (with_reducible apply Below.drew) | ((with_reducible refine Below.setCell ?_ ?_ _); rotate_left; focus (first | (simp; done) | (simp; omega) | omega)) | ((with_reducible refine Below.alloc ?_ ?_ _); rotate_left; focus (first | (simp; done) | (simp; omega) | omega))))
    | cons v r' =>
      rcases hin.step K.bel with h0 | ⟨b, off, rfl, hbl, hcell⟩
      · simp at h0
      obtain ⟨x0, x1, x2, x3, x4⟩ := hcell 0 (by simp)
      simp only [List.getElem_cons_zero, Nat.zero_mul, Nat.add_zero] at x0 x1 x2 x3 x4
      have hlp : (0 : Int) < ((v :: r').length : Int) := by simp
      have hlr : (v :: r').length = r'.length + 1 := rfl
      by_cases hle : v.tm ≤ time
      · rw [trk_yes time cur v r' hle] at hall
        have HA : Hid (R = trk time v r') := hall
        have hbw := K.bel
        clear hall hcell
        go_wp2_with fail
        go_region
        have hin2 : InVr w (if c' = 1 then some ⟨b, off, none⟩ else some ⟨b, off + 5, none⟩) r' := by
          have hc3 : r'.length + 1 ≤ c' := hc
          by_cases h1 : c' = 1
          · rw [if_pos h1]; exact .inl (by omega)
          · rw [if_neg h1]; exact InVr.tail hin
        have hc3 : r'.length ≤ c' - 1 := by have : r'.length + 1 ≤ c' := hc; omega
        have hl3 : r'.length ≤ 1048576 := by have : r'.length + 1 ≤ 1048576 := hrl; omega
        have K2 := (K.put v (.slice (if c' = 1 then some ⟨b, off, none⟩ else some ⟨b, off + 5, none⟩) r'.length (c' - 1))).drew
        go_wp2_with fail
        go_roundw
        case rel => exact ⟨v, r', _, c' - 1, HA.out, K2, hin2, hc3, hl3⟩
        case measure =>
          have e1 := (six K2.tb).2.2.2.2.2
          show lenOf (World.cell? _ ⟨w.heap.size + 2, 5, none⟩) < _
          rw [t5]
          refine Nat.lt_of_le_of_lt (Nat.le_of_eq (congrArg lenOf e1)) ?_
          show r'.length < (v :: r').length
          simp
      · rw [trk_no time cur v r' hle] at hall
        have HF : Hid (R = (cur, v :: r')) := hall
        have hbw := K.bel
        obtain ⟨q0, q1, q2, q3, q4, q5⟩ := six K.rb
        have hq := fun o => soft K.rb o
        have HIN : Hid (InVr _ _ _) := hin
        have hc2 : (v :: r').length ≤ c' := hc
        clear hall hcell hin
        obtain ⟨N, hN⟩ : ∃ N, N = (v :: r').length := ⟨_, rfl⟩
        rw [← hN] at t5 hlp hc2
        go_wp2_with fail
        refine bodyPost_ret (v := .agg #[.int .i64 cur.tm, .bool cur.gone, .int .i64 cur.doc.k, .int .i64 cur.doc.n, .string cur.doc.t, .slice (some ⟨b, off, none⟩) N c']) (by simp [results, Tryz.results90, go_sem, *]) rfl ⟨⟨_, c', by rw [HF.out, hN], by rw [HF.out]; exact HIN.out, by rw [HF.out]; exact hc⟩, ?_⟩
        (repeat (first | (with_reducible exact Below.refl _ _) | (with_reducible assumption) | (with_reducible apply below_drewN) | (with_reducible apply Below.drew) | ((with_reducible refine Below.setCell ?_ ?_ _); rotate_left; focus (first | (simp; done) | (simp; omega) | omega)) | ((with_reducible refine Below.alloc ?_ ?_ _); rotate_left; focus (first | (simp; done) | (simp; omega) | omega))))

end Go.Proofs.YtpfbepbmiillbaaGreatDoor.Co

/- Copies of versions, and where a chain stands: what the program answers. -/
namespace Go.Proofs.YtpfbepbmiillbaaGreatDoor.Co
open Go.RowKit Tr
set_option linter.unusedVariables false

/-- A version's five cells in the first new block, five empty ones that may be written in the second. -/
structure OwnVe (w W : World) (t : Ver) : Prop where
  bel : Below w.heap.size w W
  lt : w.heap.size + 1 < W.heap.size
  cb : W.heap[w.heap.size]? = some (.cells #[.int .i64 t.tm, .bool t.gone, .int .i64 t.doc.k, .int .i64 t.doc.n, .string t.doc.t] 70)
  db : W.heap[w.heap.size + 1]? = some (.cells #[.int .i64 0, .bool false, .int .i64 0, .int .i64 0, .string em] 70)
theorem OwnVe.start (w : World) (t : Ver) : OwnVe w ((w.alloc (.cells #[.int .i64 t.tm, .bool t.gone, .int .i64 t.doc.k, .int .i64 t.doc.n, .string t.doc.t] 70)).alloc (.cells #[.int .i64 0, .bool false, .int .i64 0, .int .i64 0, .string em] 70)) t := by
  refine ⟨((Below.refl _ _).alloc (Nat.le_refl _) _).alloc (by simp) _, by simp, ?_, ?_⟩
  · rw [heap_alloc_old _ _ (by simp)]; exact heap_alloc_new _ _
  · have := heap_alloc_new (w.alloc (.cells #[.int .i64 t.tm, .bool t.gone, .int .i64 t.doc.k, .int .i64 t.doc.n, .string t.doc.t] 70)) (.cells #[.int .i64 0, .bool false, .int .i64 0, .int .i64 0, .string em] 70)
    rw [heap_size_alloc] at this; exact this
theorem OwnVe.step {w W W' : World} {t : Ver} (h : OwnVe w W t) (hb : Below W.heap.size W W') : OwnVe w W' t :=
  have hl : w.heap.size < W.heap.size := Nat.lt_of_succ_lt h.lt
  ⟨h.bel.trans (hb.mono h.bel.size), Nat.lt_of_lt_of_le h.lt hb.size, (hb.block _ hl).trans h.cb, (hb.block _ h.lt).trans h.db⟩
theorem keepVe {w W W' : World} {t : Ver} (h : OwnVe w W t) (hb : Below (w.heap.size + 1) W W') : W'.cell? ⟨w.heap.size, 0, none⟩ = some (.int .i64 t.tm) ∧ W'.cell? ⟨w.heap.size, 1, none⟩ = some (.bool t.gone) ∧ W'.cell? ⟨w.heap.size, 2, none⟩ = some (.int .i64 t.doc.k) ∧ W'.cell? ⟨w.heap.size, 3, none⟩ = some (.int .i64 t.doc.n) ∧ W'.cell? ⟨w.heap.size, 4, none⟩ = some (.string t.doc.t) :=
  have hl : w.heap.size < w.heap.size + 1 := Nat.lt_succ_self _
  have hc := five h.cb
  ⟨(hb.cell hl).trans hc.1, (hb.cell hl).trans hc.2.1, (hb.cell hl).trans hc.2.2.1, (hb.cell hl).trans hc.2.2.2.1, (hb.cell hl).trans hc.2.2.2.2⟩

set_option maxRecDepth 4000 in
set_option maxHeartbeats 4000000 in
theorem ownVer_any (t : Ver) (w : World) (hs : t.doc.t.size ≤ 1048576) :
    Calls Tryz.prog 91 #[.agg #[.int .i64 t.tm, .bool t.gone, .int .i64 t.doc.k, .int .i64 t.doc.n, .string t.doc.t]] w fun e w' => e = .returned (.agg #[.int .i64 t.tm, .bool t.gone, .int .i64 t.doc.k, .int .i64 t.doc.n, .string t.doc.t]) ∧ Below w.heap.size w w' := by
  have X0 := OwnVe.start w t
  have HV : Hid (∀ W : World, Calls _ _ _ W _) := fun W => ownValue_any t.doc.k t.doc.n t.doc.t W hs
  clear hs
  go_enter Tryz.func91, Tryz.ntmps91
  go_wp2_with fail
  generalize (w.alloc (.cells #[.int .i64 t.tm, .bool t.gone, .int .i64 t.doc.k, .int .i64 t.doc.n, .string t.doc.t] 70)).alloc (.cells #[.int .i64 0, .bool false, .int .i64 0, .int .i64 0, .string em] 70) = W0 at X0 ⊢
  obtain ⟨a0, a1, a2, a3, a4⟩ := five X0.cb
  have hlt0 := X0.lt
  have hltw : w.heap.size < W0.heap.size := Nat.lt_of_succ_lt hlt0
  have hbw := X0.bel
  go_region_held3 (fun w0 => w0.cell? ⟨w.heap.size, 0, none⟩ = some (.int .i64 t.tm) ∧ w0.cell? ⟨w.heap.size, 1, none⟩ = some (.bool t.gone) ∧ w0.cell? ⟨w.heap.size, 2, none⟩ = some (.int .i64 t.doc.k) ∧ w0.cell? ⟨w.heap.size, 3, none⟩ = some (.int .i64 t.doc.n) ∧ w0.cell? ⟨w.heap.size, 4, none⟩ = some (.string t.doc.t)) ((refine keepVe X0 ?_; (repeat (first | (with_reducible exact Below.refl _ _) | (with_reducible assumption) | (with_reducible apply below_drewN) | (with_reducible apply Below.drew) | ((with_reducible refine Below.setCell ?_ ?_ _); rotate_left; focus (first | (simp; done) | (simp; omega) | omega)) | ((with_reducible refine Below.alloc ?_ ?_ _); rotate_left; focus (first | (simp; done) | (simp; omega) | omega)))))) ((go_at_call 125; refine (HV.out _).mono ?_; rintro e w2 ⟨rfl, hb⟩; have hB2 : Below W0.heap.size W0 w2 := (show Below W0.heap.size W0 _ by (repeat (first | (with_reducible exact Below.refl _ _) | (with_reducible assumption) | (with_reducible apply below_drewN) | (with_reducible apply Below.drew) | ((with_reducible refine Below.setCell ?_ ?_ _); rotate_left; focus (first | (simp; done) | (simp; omega) | omega)) | ((with_reducible refine Below.alloc ?_ ?_ _); rotate_left; focus (first | (simp; done) | (simp; omega) | omega))))).trans (hb.mono (by first | (simp; done) | (simp; omega) | omega)); have hB2' : Below (w.heap.size + 1) W0 w2 := hB2.mono (by omega); have hzb2 := hB2.size; have hn2 := Nat.lt_of_lt_of_le hltw hzb2; have ho2 := Nat.lt_of_lt_of_le hlt0 hzb2; have Y2 := X0.step hB2; have k0 := (five Y2.db).1; have k1 := (five Y2.db).2.1; have k2 := (five Y2.db).2.2.1; have k3 := (five Y2.db).2.2.2.1; have k4 := (five Y2.db).2.2.2.2; have m0 := soft Y2.db 0; have m1 := soft Y2.db 1; have m2 := soft Y2.db 2; have m3 := soft Y2.db 3; have m4 := soft Y2.db 4; clear hb Y2))
  all_goals
    try go_wp2_with fail
    refine bodyPost_ret (v := .agg #[.int .i64 t.tm, .bool t.gone, .int .i64 t.doc.k, .int .i64 t.doc.n, .string t.doc.t]) (by simp [results, Tryz.results91, go_sem, *]) rfl ⟨rfl, ?_⟩
    have hbb := hbw.trans (hB2.mono hbw.size)
    (repeat (first | (with_reducible exact Below.refl _ _) | (with_reducible assumption) | (with_reducible apply below_drewN) | (with_reducible apply Below.drew) | ((with_reducible refine Below.setCell ?_ ?_ _); rotate_left; focus (first | (simp; done) | (simp; omega) | omega)) | ((with_reducible refine Below.alloc ?_ ?_ _); rotate_left; focus (first | (simp; done) | (simp; omega) | omega))))

def findC (id : Int) (l : List Chn) : Option Chn := l.find? (fun x => decide (x.id = id))
end Go.Proofs.YtpfbepbmiillbaaGreatDoor.Co

/- The newest version of a chain: what the program and the specification answer. -/
namespace Go.Proofs.YtpfbepbmiillbaaGreatDoor.Co
open Go.RowKit Tr
set_option linter.unusedVariables false

/-- A row of chains at a block's head, whose rows of versions have their room. -/
structure ReadCc (w : World) (g : Nat) (f : List Chn) : Prop where
  lt : g < w.heap.size
  cells : ∀ i (h : i < f.length), w.cell? ⟨g, i * 2, none⟩ = some (.int .i64 f[i].id) ∧ ∃ p cap, w.cell? ⟨g, i * 2 + 1, none⟩ = some (.slice p f[i].vs.length cap) ∧ f[i].vs.length ≤ cap ∧ InVr w p f[i].vs
theorem ReadCc.next {w w' : World} {g : Nat} {f : List Chn} (h : ReadCc w g f) (hb : Below w.heap.size w w') : ReadCc w' g f :=
  ⟨Nat.lt_of_lt_of_le h.lt hb.size, fun i hi => by
    obtain ⟨h0, p, cap, hc, hl, hr⟩ := h.cells i hi
    exact ⟨(hb.cell h.lt).trans h0, p, cap, (hb.cell h.lt).trans hc, hl, hr.step hb⟩⟩
theorem ReadCc.read {w : World} {g : Nat} {f : List Chn} (h : ReadCc w g f) : ReadCh w g f :=
  ⟨h.lt, fun i hi => by
    obtain ⟨h0, p, cap, hc, _, hr⟩ := h.cells i hi
    exact ⟨h0, p, cap, hc, hr⟩⟩
theorem ReadCc.inCh {w : World} {g : Nat} {f : List Chn} (h : ReadCc w g f) : InCh w (some ⟨g, 0, none⟩) f := InVr.rowOf h.read
theorem OwnVr.room {w : World} {base : Nat} {v : Value} {l : List Ver} (h : OwnVr w base v l) : ∃ p cap, v = .slice p l.length cap ∧ l.length ≤ cap ∧ InVr w p l := by
  have h' := h
  obtain ⟨_, h2⟩ := h
  rcases h2 with ⟨h2, h3⟩ | ⟨g, cap, cur, hv, _, _, hc, _⟩
  · have h4 := List.length_eq_zero_iff.1 h3
    subst h4
    exact ⟨none, 0, h2, Nat.zero_le _, .inl rfl⟩
  · obtain ⟨p, c, e1, e2⟩ := h'.inVr
    rw [hv] at e1
    injection e1 with a1 a2 a3
    subst a3
    exact ⟨p, cap, by rw [hv, a1], hc, e2⟩
theorem OwnCh.readCc {w : World} {base g cap n : Nat} {f : List Chn} (h : OwnCh w base (.slice (some ⟨g, 0, none⟩) n cap) f) : ReadCc w g f := by
  obtain ⟨vs, xs, h⟩ := h
  exact ⟨(h.row.lt g rfl).2, fun i hi => by
    obtain ⟨a0, a1⟩ := h.at_ i hi hi
    obtain ⟨p, c, e1, e3, e2⟩ := OwnVr.room (h.ents i hi hi)
    exact ⟨owns_cell h.row _ _ a0, p, c, by rw [← e1]; exact owns_cell h.row _ _ a1, e3, e2⟩⟩
/-- A collection that can be read, with its room. -/
structure RdC (w : World) (g1 g2 : Nat) (c : Col) : Prop where
  ch : ReadCc w g1 c.chs
  df : RowDf w (some ⟨g2, 0, none⟩) c.dfs
theorem RdC.next {w w' : World} {g1 g2 : Nat} {c : Col} (h : RdC w g1 g2 c) (hb : Below w.heap.size w w') : RdC w' g1 g2 c := ⟨h.ch.next hb, h.df.next hb⟩
set_option maxRecDepth 4000 in
set_option maxHeartbeats 1000000 in
theorem trackNow_any (id : Int) (p : Option Addr) (cap : Nat) (l : List Ver) (w : World) (hin : InVr w p l) (hl : l.length ≤ 1048576) (hcap : l.length ≤ cap) :
    Calls Tryz.prog 78 #[.agg #[.int .i64 id, .slice p l.length cap]] w fun e w' => (∃ p' n' c', e = .returned (.agg #[.int .i64 (trP 10000 l).1.tm, .bool (trP 10000 l).1.gone, .int .i64 (trP 10000 l).1.doc.k, .int .i64 (trP 10000 l).1.doc.n, .string (trP 10000 l).1.doc.t, .slice p' n' c'])) ∧ Below w.heap.size w w' := by
  have hb0 : Below w.heap.size w ((w.alloc (.cells #[.int .i64 id, .slice p l.length cap] 66)).alloc (.cells #[.int .i64 0, .bool false, .int .i64 0, .int .i64 0, .string em, .slice none 0 0] 131)) := ((Below.refl _ _).alloc (Nat.le_refl _) _).alloc (by simp) _
  have hrb : ((w.alloc (.cells #[.int .i64 id, .slice p l.length cap] 66)).alloc (.cells #[.int .i64 0, .bool false, .int .i64 0, .int .i64 0, .string em, .slice none 0 0] 131)).heap[w.heap.size + 1]? = some (.cells #[.int .i64 0, .bool false, .int .i64 0, .int .i64 0, .string em, .slice none 0 0] 131) := by
    have := heap_alloc_new (w.alloc (.cells #[.int .i64 id, .slice p l.length cap] 66)) (.cells #[.int .i64 0, .bool false, .int .i64 0, .int .i64 0, .string em, .slice none 0 0] 131)
    rw [heap_size_alloc] at this; exact this
  have HC : Hid (Calls _ _ _ _ _) := trackAt_any id 10000 p cap l _ (hin.step hb0) hl hcap
  obtain ⟨R, hR⟩ : ∃ R, R = trP 10000 l := ⟨_, rfl⟩
  rw [← hR] at HC ⊢
  clear hR hin
  go_enter Tryz.func78, Tryz.ntmps78
  go_wp2_with fail
  generalize (w.alloc (.cells #[.int .i64 id, .slice p l.length cap] 66)).alloc (.cells #[.int .i64 0, .bool false, .int .i64 0, .int .i64 0, .string em, .slice none 0 0] 131) = W0 at hb0 hrb HC ⊢
  have hl0 : w.heap.size + 1 < W0.heap.size := by
    rcases Nat.lt_or_ge (w.heap.size + 1) W0.heap.size with h | h
    · exact h
    · rw [Array.getElem?_eq_none h] at hrb; cases hrb
  refine HC.out.mono ?_
  rintro e w1 ⟨⟨p', c', rfl, _, _⟩, hb⟩
  have hrb1 := (hb.block _ hl0).trans hrb
  obtain ⟨q0, q1, q2, q3, q4, q5⟩ := six hrb1
  have hq := fun o => soft hrb1 o
  have hbw := hb0.trans (hb.mono hb0.size)
  clear hb HC
  go_wp2_with fail
  refine bodyPost_ret (v := .agg #[.int .i64 R.1.tm, .bool R.1.gone, .int .i64 R.1.doc.k, .int .i64 R.1.doc.n, .string R.1.doc.t, .slice p' R.2.length c']) (by simp [results, Tryz.results78, go_sem, *]) rfl ⟨⟨p', _, c', rfl⟩, ?_⟩
  (repeat (first | (with_reducible exact Below.refl _ _) | (with_reducible assumption) | (with_reducible apply below_drewN) | (with_reducible apply Below.drew) | ((with_reducible refine Below.setCell ?_ ?_ _); rotate_left; focus (first | (simp; done) | (simp; omega) | omega)) | ((with_reducible refine Below.alloc ?_ ?_ _); rotate_left; focus (first | (simp; done) | (simp; omega) | omega))))

theorem szVr_of {c : Col} (h : SzCol c) {x : Chn} (hx : x ∈ c.chs) {v : Ver} (hv : v ∈ x.vs) : v.doc.t.size ≤ 1048576 := (h.chs x hx).2 v hv
end Go.Proofs.YtpfbepbmiillbaaGreatDoor.Co

/- The newest version up to a time, and of an id: what the specification answers. -/
namespace Go.Proofs.YtpfbepbmiillbaaGreatDoor.Co
open Go.RowKit Tr
set_option linter.unusedVariables false

theorem atS_take (time : Int) (l : List Ver) (k : Nat) (h : k < l.length) : atS time zG (l.take (k + 1)) = if l[k].tm ≤ time then l[k] else atS time zG (l.take k) := by
  unfold atS; rw [List.take_succ_eq_append_getElem h, List.foldl_append]; rfl
/-- What came in, the answer's own place, and what is found so far. -/
structure AtB (w W : World) (id : Int) (s : Value) (cur : Ver) : Prop where
  bel : Below w.heap.size w W
  lt : w.heap.size + 2 < W.heap.size
  xb : W.heap[w.heap.size]? = some (.cells #[.int .i64 id, s] 66)
  rb : W.heap[w.heap.size + 1]? = some (.cells #[.int .i64 0, .bool false, .int .i64 0, .int .i64 0, .string em] 70)
  ob : W.heap[w.heap.size + 2]? = some (.cells #[.int .i64 cur.tm, .bool cur.gone, .int .i64 cur.doc.k, .int .i64 cur.doc.n, .string cur.doc.t] 70)
theorem two {W : World} {b : Nat} {T : TypeId} {v0 v1 : Value} (h : W.heap[b]? = some (.cells #[v0, v1] T)) : W.cell? ⟨b, 0, none⟩ = some v0 ∧ W.cell? ⟨b, 1, none⟩ = some v1 := by
  refine ⟨?_, ?_⟩ <;> simp [World.cell?, h]
theorem AtB.put {w W : World} {id : Int} {s : Value} {cur : Ver} (h : AtB w W id s cur) (v : Ver) :
    AtB w (((((W.setCell ⟨w.heap.size + 2, 0, none⟩ (.int .i64 v.tm)).setCell ⟨w.heap.size + 2, 1, none⟩ (.bool v.gone)).setCell ⟨w.heap.size + 2, 2, none⟩ (.int .i64 v.doc.k)).setCell ⟨w.heap.size + 2, 3, none⟩ (.int .i64 v.doc.n)).setCell ⟨w.heap.size + 2, 4, none⟩ (.string v.doc.t)) id s v := by
  refine ⟨?_, by simpa [World.setCell] using h.lt, ?_, ?_, ?_⟩
  · have hb := h.bel
    exact ((((hb.setCell (by show w.heap.size ≤ w.heap.size + 2; omega) _).setCell (by show w.heap.size ≤ w.heap.size + 2; omega) _).setCell (by show w.heap.size ≤ w.heap.size + 2; omega) _).setCell (by show w.heap.size ≤ w.heap.size + 2; omega) _).setCell (by show w.heap.size ≤ w.heap.size + 2; omega) _
  · rw [set_other (by omega), set_other (by omega), set_other (by omega), set_other (by omega), set_other (by omega)]; exact h.xb
  · rw [set_other (by omega), set_other (by omega), set_other (by omega), set_other (by omega), set_other (by omega)]; exact h.rb
  · rw [set_same (set_same (set_same (set_same (set_same h.ob))))]; rfl
theorem AtB.start (w : World) (id : Int) (s : Value) : AtB w (((w.alloc (.cells #[.int .i64 id, s] 66)).alloc (.cells #[.int .i64 0, .bool false, .int .i64 0, .int .i64 0, .string em] 70)).alloc (.cells #[.int .i64 0, .bool true, .int .i64 0, .int .i64 0, .string em] 70)) id s zG := by
  refine ⟨((Below.refl _ _).alloc (Nat.le_refl _) _ |>.alloc (by simp) _).alloc (by simp; omega) _, by simp, ?_, ?_, ?_⟩
  · rw [heap_alloc_old _ _ (by simp; omega), heap_alloc_old _ _ (by simp)]; exact heap_alloc_new _ _
  · rw [heap_alloc_old _ _ (by simp)]
    have := heap_alloc_new (w.alloc (.cells #[.int .i64 id, s] 66)) (.cells #[.int .i64 0, .bool false, .int .i64 0, .int .i64 0, .string em] 70)
    rw [heap_size_alloc] at this; exact this
  · have := heap_alloc_new ((w.alloc (.cells #[.int .i64 id, s] 66)).alloc (.cells #[.int .i64 0, .bool false, .int .i64 0, .int .i64 0, .string em] 70)) (.cells #[.int .i64 0, .bool true, .int .i64 0, .int .i64 0, .string em] 70)
    rw [heap_size_alloc, heap_size_alloc] at this; exact this

set_option maxRecDepth 4000 in
set_option maxHeartbeats 1000000 in
theorem l08At_any (id time : Int) (p : Option Addr) (cap : Nat) (l : List Ver) (w : World) (hin : InVr w p l) (hl : l.length ≤ 1048576) :
    Calls Tryz.prog 87 #[.agg #[.int .i64 id, .slice p l.length cap], .int .i64 time] w fun e w' => e = .returned (.agg #[.int .i64 (atS time zG l).tm, .bool (atS time zG l).gone, .int .i64 (atS time zG l).doc.k, .int .i64 (atS time zG l).doc.n, .string (atS time zG l).doc.t]) ∧ Below w.heap.size w w' := by
  obtain ⟨R, hR⟩ : ∃ R, R = atS time zG l := ⟨_, rfl⟩
  rw [← hR]
  have HR : Hid (R = atS time zG l) := hR
  have HI : Hid (InVr _ _ _) := hin
  have K0 := AtB.start w id (.slice p l.length cap)
  clear hR hin
  go_enter Tryz.func87, Tryz.ntmps87
  go_wp2_with fail
  generalize (((w.alloc (.cells #[.int .i64 id, .slice p l.length cap] 66)).alloc (.cells #[.int .i64 0, .bool false, .int .i64 0, .int .i64 0, .string em] 70)).alloc (.cells #[.int .i64 0, .bool true, .int .i64 0, .int .i64 0, .string em] 70)) = W0 at K0 ⊢
  go_loopw [6] (fun i wr => ∃ k : Nat, k ≤ l.length ∧ i = .int .i64 k ∧ AtB w wr id (.slice p l.length cap) (atS time zG (l.take k))) (fun i _ => l.length - (intOf i).toNat)
  case atStart => exact ⟨0, Nat.zero_le _, rfl, K0⟩
  case round =>
    obtain ⟨k, hk, rfl, K⟩ := hrel
    clear K0
    obtain ⟨x0, x1⟩ := two K.xb
    by_cases hlt : k < l.length
    · rcases HI.out.step K.bel with h0 | ⟨b, off, rfl, hbl, hcell⟩
      · omega
      obtain ⟨y0, y1, y2, y3, y4⟩ := hcell k hlt
      have hst := atS_take time l k hlt
      have hlt2 : (k : Int) < (l.length : Int) := by omega
      obtain ⟨v, hv⟩ : ∃ v, v = l[k] := ⟨_, rfl⟩
      rw [← hv] at y0 y1 y2 y3 y4 hst
      obtain ⟨cur, hcur⟩ : ∃ cur, cur = atS time zG (l.take k) := ⟨_, rfl⟩
      rw [← hcur] at hst K
      obtain ⟨t0, t1, t2, t3, t4⟩ := five K.ob
      have hs := fun o => soft K.ob o
      clear hcell hv hcur
      by_cases hle : v.tm ≤ time
      · rw [if_pos hle] at hst
        have HST : Hid (atS time zG (l.take (k + 1)) = v) := hst
        have K2 := K.put v
        have HK2 : Hid (AtB _ _ _ _ _) := K2
        clear hst K2
        go_wp2_with fail
        go_roundw
        case rel => exact ⟨k + 1, by omega, by go_num, by rw [HST.out]; exact HK2.out⟩
        case measure => simp [intOf]; omega
      · rw [if_neg hle] at hst
        have HST : Hid (atS time zG (l.take (k + 1)) = cur) := hst
        have HK2 : Hid (AtB _ _ _ _ _) := K
        clear hst
        go_wp2_with fail
        go_roundw
        case rel => exact ⟨k + 1, by omega, by go_num, by rw [HST.out]; exact HK2.out⟩
        case measure => simp [intOf]; omega
    · have hlt2 : ¬ (k : Int) < (l.length : Int) := by omega
      have hRk : R = atS time zG (l.take k) := by rw [HR.out, List.take_of_length_le (by omega)]
      rw [← hRk] at K
      obtain ⟨t0, t1, t2, t3, t4⟩ := five K.ob
      obtain ⟨q0, q1, q2, q3, q4⟩ := five K.rb
      have hq := fun o => soft K.rb o
      have hbw := K.bel
      clear hRk
      go_wp2_with fail
      refine bodyPost_ret (v := .agg #[.int .i64 R.tm, .bool R.gone, .int .i64 R.doc.k, .int .i64 R.doc.n, .string R.doc.t]) (by simp [results, Tryz.results87, go_sem, *]) rfl ⟨rfl, ?_⟩
      (repeat (first | (with_reducible exact Below.refl _ _) | (with_reducible assumption) | (with_reducible apply below_drewN) | (with_reducible apply Below.drew) | ((with_reducible refine Below.setCell ?_ ?_ _); rotate_left; focus (first | (simp; done) | (simp; omega) | omega)) | ((with_reducible refine Below.alloc ?_ ?_ _); rotate_left; focus (first | (simp; done) | (simp; omega) | omega))))

/-- The newest version of an id, zero but gone without any. -/
def lastS (c : List Chn) (id : Int) : Ver := match findC id c with | some x => atS 10000 zG x.vs | none => zG
/-- A version in its block. -/
structure V5 (U : World) (b : Nat) (v : Ver) : Prop where
  lt : b < U.heap.size
  cb : U.heap[b]? = some (.cells #[.int .i64 v.tm, .bool v.gone, .int .i64 v.doc.k, .int .i64 v.doc.n, .string v.doc.t] 70)
theorem V5.new (U : World) (v : Ver) : V5 (U.alloc (.cells #[.int .i64 v.tm, .bool v.gone, .int .i64 v.doc.k, .int .i64 v.doc.n, .string v.doc.t] 70)) U.heap.size v := ⟨by simp, heap_alloc_new _ _⟩
theorem V5.step {U U' : World} {b : Nat} {v : Ver} (h : V5 U b v) (hb : Below U.heap.size U U') : V5 U' b v := ⟨Nat.lt_of_lt_of_le h.lt hb.size, (hb.block _ h.lt).trans h.cb⟩

end Go.Proofs.YtpfbepbmiillbaaGreatDoor.Co

/- Marks on rows of versions and of parts: what the laws' helpers answer, and which memory they change. -/
namespace Go.Proofs.YtpfbepbmiillbaaGreatDoor.Co
open Go.RowKit Tr
set_option linter.unusedVariables false

theorem markText_at (n : Nat) (z : Int) (hz : z = (n : Int)) (h1 : 1 ≤ n) (h2 : n ≤ 17592186044416) (w : World) :
    Calls Tryz.prog 55 #[.int .i64 z] w fun e w' => e = .returned (.string (Tr.mt n)) ∧ Below w.heap.size w w' := by
  subst hz; exact Tr.markText_any n h1 h2 w
/-- Whether a mark's number makes true. -/
def boolM (n : Int) : Bool := n % 3 == 0
/-- The version that marks a place, from number n on. -/
def markVr (n : Nat) : Ver := ⟨(n : Int), boolM ((n : Int) + 1), ⟨(n : Int) + 1 + 1, (n : Int) + 1 + 1 + 1, Tr.mt (n + 4)⟩⟩
def marksVr : Nat → Nat → List Ver
  | _, 0 => []
  | q, n + 1 => markVr q :: marksVr (q + 5) n
theorem marksVr_len : ∀ (n q : Nat), (marksVr q n).length = n
  | 0, _ => rfl
  | n + 1, q => by rw [marksVr, List.length_cons, marksVr_len n]
theorem marksVr_snoc : ∀ (k q : Nat), marksVr q (k + 1) = marksVr q k ++ [markVr (q + 5 * k)]
  | 0, q => rfl
  | k + 1, q => by
    rw [marksVr, marksVr_snoc k (q + 5), marksVr, List.cons_append, show q + 5 + 5 * k = q + 5 * (k + 1) by omega]
def markMixVr (q : Nat) (l : List Ver) (k : Nat) : List Ver := marksVr q k ++ l.drop k
theorem markMixVr_len (q : Nat) (l : List Ver) (k : Nat) (h : k ≤ l.length) : (markMixVr q l k).length = l.length := by unfold markMixVr; rw [List.length_append, marksVr_len, List.length_drop]; omega
theorem markMixVr_zero (q : Nat) (l : List Ver) : markMixVr q l 0 = l := by unfold markMixVr marksVr; simp
theorem markMixVr_full (q : Nat) (l : List Ver) : markMixVr q l l.length = marksVr q l.length := by unfold markMixVr; simp
theorem markMixVr_set (q : Nat) (l : List Ver) (k : Nat) (h : k < l.length) : (markMixVr q l k).set k (markVr (q + 5 * k)) = markMixVr q l (k + 1) := by
  unfold markMixVr
  rw [List.set_append_right _ _ (by rw [marksVr_len]; omega), marksVr_len, Nat.sub_self, marksVr_snoc, List.append_assoc]
  congr 1
  rw [List.drop_eq_getElem_cons h]; rfl

set_option maxRecDepth 4000 in
set_option maxHeartbeats 2000000 in
theorem markVersionS_any (base : Nat) (v : Value) (l : List Ver) (q : Nat) (w : World) (hown : OwnVr w base v l) (h1 : 1 ≤ q) (h2 : q + 5 * l.length ≤ 17592186044416) (hl : l.length ≤ 1048576) :
    Calls Tryz.prog 122 #[v, .int .i64 q] w fun e w' => e = .returned (.int .i64 ((q + 5 * l.length : Nat) : Int)) ∧ OwnVr w' base v (marksVr q l.length) ∧ w.grownBy w' v.ownBlock := by
  rcases hown.form with ⟨rfl, rfl⟩ | ⟨g, c, rfl, hgb, hgl⟩
  · have HO0 : Hid (OwnVr _ _ _ _) := hown
    clear hown
    go_enter Tryz.func122, Tryz.ntmps122
    go_wp2_with fail
    refine wp_loop_rounds 1 ?_
    rw [rounds_succ]
    go_wp2_with fail
    go_ret
    exact ⟨rfl, HO0.out, grown_refl _ _⟩
  · have HO0 : Hid (OwnVr _ _ _ _) := hown
    clear hown
    go_enter Tryz.func122, Tryz.ntmps122
    go_wp2_with fail
    go_loopw [1, 5] (fun x i wr => ∃ (k E : Nat), k ≤ l.length ∧ i = .int .i64 k ∧ x = .int .i64 (E : Int) ∧ E = q + 5 * k ∧ wr.ownsRow base 70 5 (.slice (some ⟨g, 0, none⟩) l.length c) l.length (flatVr (markMixVr q l k)) ∧ w.grownBy wr (some g)) (fun _ i _ => l.length - (intOf i).toNat)
    case atStart => exact ⟨0, q, Nat.zero_le _, rfl, rfl, by omega, by rw [markMixVr_zero]; exact HO0.out, grown_refl _ _⟩
    case round =>
      obtain ⟨k, E, hk, rfl, rfl, hE, hown, hgr⟩ := hrel
      have HB : Hid (World.grownBy _ _ _) := hgr
      have hz := hgr.size
      clear hgr HO0
      by_cases hlt : k < l.length
      · have hlt2 : (k : Int) < (l.length : Int) := by omega
        have hm := markMixVr_len q l k hk
        have hglr : g < wr.heap.size := (hown.lt g rfl).2
        obtain ⟨z0, y0⟩ := own_there hown (k * 5) (by omega)
        obtain ⟨z1, y1⟩ := own_there hown (k * 5 + 1) (by omega)
        obtain ⟨z2, y2⟩ := own_there hown (k * 5 + 2) (by omega)
        obtain ⟨z3, y3⟩ := own_there hown (k * 5 + 3) (by omega)
        have hf := fun o => World.ownsRow.frozenAt hown o
        have f0 := hf (k * 5); have f1 := hf (k * 5 + 1); have f2 := hf (k * 5 + 2); have f3 := hf (k * 5 + 3)
        obtain ⟨B, hB⟩ : ∃ B : Bool, B = boolM ((E : Int) + 1) := ⟨_, rfl⟩
        have hB' : (((E : Int) + 1) % 3 == 0) = B := by rw [hB]; rfl
        have hT' : Int.tmod ((E : Int) + 1) 3 = ((E : Int) + 1) % 3 := Int.tmod_eq_emod_of_nonneg (by omega)
        have hst4 := (World.ownsRow.stored (World.ownsRow.stored (World.ownsRow.stored (World.ownsRow.stored hown (k * 5) (.int .i64 (E : Int))).1 (k * 5 + 1) (.bool B)).1 (k * 5 + 2) (.int .i64 ((E : Int) + 1 + 1))).1 (k * 5 + 3) (.int .i64 ((E : Int) + 1 + 1 + 1))).1
        have he : (((((flatVr (markMixVr q l k)).set (k * 5) (.int .i64 (E : Int))).set (k * 5 + 1) (.bool B)).set (k * 5 + 2) (.int .i64 ((E : Int) + 1 + 1))).set (k * 5 + 3) (.int .i64 ((E : Int) + 1 + 1 + 1))).set (k * 5 + 4) (.string (Tr.mt (E + 4))) = flatVr (markMixVr q l (k + 1)) := by
          rw [← markMixVr_set q l k hlt, hB, ← hE]; exact flatVr_set (markMixVr q l k) k (markVr E) (by omega)
        have HE : Hid _ := he
        have HS4 : Hid (World.ownsRow _ _ _ _ _ _ _) := hst4
        have HEQ : Hid (E = q + 5 * k) := hE
        have hEb : E ≤ 17592186044411 := by omega
        have hE1 : 1 ≤ E := by omega
        clear hown hst4 he hB hE hf
        go_wp2_with fail
        refine (markText_at (E + 4) _ (by omega) (by omega) (by omega) _).mono ?_
        rintro e w2 ⟨rfl, hb2⟩
        have hown2 := owns_below HS4.out hb2
        obtain ⟨z4, y4⟩ := own_there hown2 (k * 5 + 4) (by omega)
        have f4 := World.ownsRow.frozenAt hown2 (k * 5 + 4)
        have hst := (World.ownsRow.stored hown2 (k * 5 + 4) (.string (Tr.mt (E + 4)))).1
        rw [HE.out] at hst
        have HS : Hid (World.ownsRow _ _ _ _ _ _ _) := hst
        have HB2 : Hid (World.grownBy _ _ _) := grown_trans (grown_trans (grown_trans (grown_trans (grown_trans HB.out grown_set) grown_set) grown_set) grown_set) (grown_below hb2)
        have hz2 := hb2.size
        clear hst hown2 hb2 hm HS4 y0 y1 y2 y3 f0 f1 f2 f3
        go_wp2_with fail
        go_roundw
        case rel => exact ⟨k + 1, E + 5, by omega, by go_num, by go_num, by have := HEQ.out; omega, HS.out, grown_trans HB2.out grown_set⟩
        case measure => simp [intOf]; omega
      · obtain rfl : k = l.length := by omega
        rw [markMixVr_full] at hown
        have HO : Hid (World.ownsRow _ _ _ _ _ _ _) := hown
        clear hown
        subst hE
        go_wp2_with fail
        go_ret
        exact ⟨rfl, by unfold OwnVr; rw [marksVr_len]; exact HO.out, HB.out⟩

end Go.Proofs.YtpfbepbmiillbaaGreatDoor.Co

/- Marks on rows of parts and of chains: what the laws' helpers answer, and which memory they change. -/
namespace Go.Proofs.YtpfbepbmiillbaaGreatDoor.Co
open Go.RowKit Tr
set_option linter.unusedVariables false

/-- The part that marks a place, from number n on. -/
def markPt (n : Nat) : Prt := ⟨Tr.mt n, boolM ((n : Int) + 1)⟩
def marksPt : Nat → Nat → List Prt
  | _, 0 => []
  | q, n + 1 => markPt q :: marksPt (q + 2) n
theorem marksPt_len : ∀ (n q : Nat), (marksPt q n).length = n
  | 0, _ => rfl
  | n + 1, q => by rw [marksPt, List.length_cons, marksPt_len n]
theorem marksPt_snoc : ∀ (k q : Nat), marksPt q (k + 1) = marksPt q k ++ [markPt (q + 2 * k)]
  | 0, q => rfl
  | k + 1, q => by
    rw [marksPt, marksPt_snoc k (q + 2), marksPt, List.cons_append, show q + 2 + 2 * k = q + 2 * (k + 1) by omega]
def markMixPt (q : Nat) (l : List Prt) (k : Nat) : List Prt := marksPt q k ++ l.drop k
theorem markMixPt_len (q : Nat) (l : List Prt) (k : Nat) (h : k ≤ l.length) : (markMixPt q l k).length = l.length := by unfold markMixPt; rw [List.length_append, marksPt_len, List.length_drop]; omega
theorem markMixPt_zero (q : Nat) (l : List Prt) : markMixPt q l 0 = l := by unfold markMixPt marksPt; simp
theorem markMixPt_full (q : Nat) (l : List Prt) : markMixPt q l l.length = marksPt q l.length := by unfold markMixPt; simp
theorem markMixPt_set (q : Nat) (l : List Prt) (k : Nat) (h : k < l.length) : (markMixPt q l k).set k (markPt (q + 2 * k)) = markMixPt q l (k + 1) := by
  unfold markMixPt
  rw [List.set_append_right _ _ (by rw [marksPt_len]; omega), marksPt_len, Nat.sub_self, marksPt_snoc, List.append_assoc]
  congr 1
  rw [List.drop_eq_getElem_cons h]; rfl

set_option maxRecDepth 4000 in
set_option maxHeartbeats 2000000 in
theorem markPartS_any (base : Nat) (v : Value) (l : List Prt) (q : Nat) (w : World) (hown : OwnD w base v l) (h1 : 1 ≤ q) (h2 : q + 2 * l.length ≤ 17592186044416) (hl : l.length ≤ 1048576) :
    Calls Tryz.prog 123 #[v, .int .i64 q] w fun e w' => e = .returned (.int .i64 ((q + 2 * l.length : Nat) : Int)) ∧ OwnD w' base v (marksPt q l.length) ∧ w.grownBy w' v.ownBlock := by
  rcases hown.form with ⟨rfl, rfl⟩ | ⟨g, c, rfl, hgb, hgl⟩
  · have HO0 : Hid (OwnD _ _ _ _) := hown
    clear hown
    go_enter Tryz.func123, Tryz.ntmps123
    go_wp2_with fail
    refine wp_loop_rounds 1 ?_
    rw [rounds_succ]
    go_wp2_with fail
    go_ret
    exact ⟨rfl, HO0.out, grown_refl _ _⟩
  · have HO0 : Hid (OwnD _ _ _ _) := hown
    clear hown
    go_enter Tryz.func123, Tryz.ntmps123
    go_wp2_with fail
    go_loopw [1, 5] (fun x i wr => ∃ (k E : Nat), k ≤ l.length ∧ i = .int .i64 k ∧ x = .int .i64 (E : Int) ∧ E = q + 2 * k ∧ wr.ownsRow base 204 2 (.slice (some ⟨g, 0, none⟩) l.length c) l.length (flatD (markMixPt q l k)) ∧ w.grownBy wr (some g)) (fun _ i _ => l.length - (intOf i).toNat)
    case atStart => exact ⟨0, q, Nat.zero_le _, rfl, rfl, by omega, by rw [markMixPt_zero]; exact HO0.out, grown_refl _ _⟩
    case round =>
      obtain ⟨k, E, hk, rfl, rfl, hE, hown, hgr⟩ := hrel
      have HB : Hid (World.grownBy _ _ _) := hgr
      have hz := hgr.size
      clear hgr HO0
      by_cases hlt : k < l.length
      · have hlt2 : (k : Int) < (l.length : Int) := by omega
        have hm := markMixPt_len q l k hk
        have hglr : g < wr.heap.size := (hown.lt g rfl).2
        have HO : Hid (World.ownsRow _ _ _ _ _ _ _) := hown
        obtain ⟨B, hB⟩ : ∃ B : Bool, B = boolM ((E : Int) + 1) := ⟨_, rfl⟩
        have hB' : (((E : Int) + 1) % 3 == 0) = B := by rw [hB]; rfl
        have hT' : Int.tmod ((E : Int) + 1) 3 = ((E : Int) + 1) % 3 := Int.tmod_eq_emod_of_nonneg (by omega)
        have he : ((flatD (markMixPt q l k)).set (k * 2) (.string (Tr.mt E))).set (k * 2 + 1) (.bool B) = flatD (markMixPt q l (k + 1)) := by
          rw [← markMixPt_set q l k hlt, hB, ← hE]; exact flatD_set (markMixPt q l k) k (markPt E) (by omega)
        have HE : Hid _ := he
        have HEQ : Hid (E = q + 2 * k) := hE
        have hEb : E ≤ 17592186044414 := by omega
        have hE1 : 1 ≤ E := by omega
        clear hown he hB hE
        go_wp2_with fail
        refine (markText_at E _ (by omega) (by omega) (by omega) _).mono ?_
        rintro e w2 ⟨rfl, hb2⟩
        have hown2 := owns_below HO.out hb2
        obtain ⟨z0, y0⟩ := own_there hown2 (k * 2) (by omega)
        obtain ⟨z1, y1⟩ := own_there hown2 (k * 2 + 1) (by omega)
        have f0 := World.ownsRow.frozenAt hown2 (k * 2)
        have f1 := World.ownsRow.frozenAt hown2 (k * 2 + 1)
        have hst := (World.ownsRow.stored (World.ownsRow.stored hown2 (k * 2) (.string (Tr.mt E))).1 (k * 2 + 1) (.bool B)).1
        rw [HE.out] at hst
        have HS : Hid (World.ownsRow _ _ _ _ _ _ _) := hst
        have HB2 : Hid (World.grownBy _ _ _) := grown_trans HB.out (grown_below hb2)
        have hz2 := hb2.size
        clear hst hown2 hb2 hm HO
        go_wp2_with fail
        go_roundw
        case rel => exact ⟨k + 1, E + 2, by omega, by go_num, by go_num, by have := HEQ.out; omega, HS.out, grown_trans (grown_trans HB2.out grown_set) grown_set⟩
        case measure => simp [intOf]; omega
      · obtain rfl : k = l.length := by omega
        rw [markMixPt_full] at hown
        have HO : Hid (World.ownsRow _ _ _ _ _ _ _) := hown
        clear hown
        subst hE
        go_wp2_with fail
        go_ret
        exact ⟨rfl, by unfold OwnD; rw [marksPt_len]; exact HO.out, HB.out⟩

/-- The chains that marks leave, from number q on, and the number behind them. -/
def marksCh : Nat → List Chn → List Chn
  | _, [] => []
  | q, p :: t => ⟨q, marksVr (q + 1) p.vs.length⟩ :: marksCh (q + 1 + 5 * p.vs.length) t
def endCh : Nat → List Chn → Nat
  | q, [] => q
  | q, p :: t => endCh (q + 1 + 5 * p.vs.length) t
theorem marksCh_cons (q : Nat) (p : Chn) (t : List Chn) : marksCh q (p :: t) = ⟨q, marksVr (q + 1) p.vs.length⟩ :: marksCh (q + 1 + 5 * p.vs.length) t := rfl
theorem endCh_cons (q : Nat) (p : Chn) (t : List Chn) : endCh q (p :: t) = endCh (q + 1 + 5 * p.vs.length) t := rfl
theorem marksCh_len : ∀ (q : Nat) (f : List Chn), (marksCh q f).length = f.length
  | _, [] => rfl
  | q, p :: t => by unfold marksCh; simp [marksCh_len _ t]
theorem marksCh_app : ∀ (q : Nat) (a b : List Chn), marksCh q (a ++ b) = marksCh q a ++ marksCh (endCh q a) b
  | _, [], b => rfl
  | q, p :: t, b => by
    rw [List.cons_append, marksCh_cons, marksCh_cons, endCh_cons, marksCh_app _ t b]; rfl
theorem endCh_app : ∀ (q : Nat) (a b : List Chn), endCh q (a ++ b) = endCh (endCh q a) b
  | _, [], b => rfl
  | q, p :: t, b => by
    rw [List.cons_append, endCh_cons, endCh_cons]
    exact endCh_app _ t b
theorem endCh_ge : ∀ (q : Nat) (f : List Chn), q ≤ endCh q f
  | q, [] => Nat.le_refl _
  | q, p :: t => by
    have := endCh_ge (q + 1 + 5 * p.vs.length) t
    unfold endCh; omega
theorem endCh_le : ∀ (q : Nat) (f : List Chn), (∀ p ∈ f, p.vs.length ≤ 1048576) → endCh q f ≤ q + f.length * 5242881
  | q, [], _ => by simp [endCh]
  | q, p :: t, h => by
    have h1 := endCh_le (q + 1 + 5 * p.vs.length) t (fun r hr => h r (List.mem_cons_of_mem _ hr))
    have h2 := h p (List.mem_cons_self ..)
    unfold endCh
    rw [List.length_cons, Nat.add_mul]
    omega
/-- The first k chains marked. -/
def mixMCh (q : Nat) (f : List Chn) (k : Nat) : List Chn := marksCh q (f.take k) ++ f.drop k
theorem mixMCh_len (q : Nat) (f : List Chn) (k : Nat) (h : k ≤ f.length) : (mixMCh q f k).length = f.length := by unfold mixMCh; rw [List.length_append, marksCh_len, List.length_take, List.length_drop]; omega
theorem mixMCh_zero (q : Nat) (f : List Chn) : mixMCh q f 0 = f := by unfold mixMCh marksCh; simp
theorem mixMCh_full (q : Nat) (f : List Chn) (k : Nat) (h : k = f.length) : mixMCh q f k = marksCh q f := by subst h; unfold mixMCh; simp
theorem mixMCh_get (q : Nat) (f : List Chn) (k : Nat) (h : k < f.length) (h2 : k < (mixMCh q f k).length) : (mixMCh q f k)[k] = f[k] := by
  have hl : (marksCh q (f.take k)).length = k := by rw [marksCh_len, List.length_take]; omega
  have e : (mixMCh q f k)[k]? = f[k]? := by
    unfold mixMCh
    rw [List.getElem?_append_right (by omega), hl, Nat.sub_self, List.getElem?_drop]; rfl
  rw [List.getElem?_eq_getElem h2, List.getElem?_eq_getElem h] at e
  exact Option.some.inj e
theorem mixMCh_set (q : Nat) (f : List Chn) (k : Nat) (h : k < f.length) : (mixMCh q f k).set k ⟨(endCh q (f.take k) : Nat), marksVr (endCh q (f.take k) + 1) f[k].vs.length⟩ = mixMCh q f (k + 1) := by
  unfold mixMCh
  have hl : (marksCh q (f.take k)).length = k := by rw [marksCh_len, List.length_take]; omega
  rw [List.set_append_right _ _ (by omega), hl, Nat.sub_self, List.take_succ_eq_append_getElem h, marksCh_app, List.append_assoc]
  congr 1
  rw [List.drop_eq_getElem_cons h]; rfl
theorem endCh_succ (q : Nat) (f : List Chn) (k : Nat) (h : k < f.length) : endCh q (f.take (k + 1)) = endCh q (f.take k) + 1 + 5 * f[k].vs.length := by
  rw [List.take_succ_eq_append_getElem h, endCh_app]; rfl

theorem PartCh.mark {w w3 : World} {lo g c n : Nat} {f : List Chn} {vs : Nat → Value} {xs : List Value} (h : PartCh w lo (.slice (some ⟨g, 0, none⟩) n c) n f n vs xs) (hn : f.length = n) {k : Nat} (hk : k < n) {num : Int} {es : List Ver}
    (ho : OwnVr w3 lo (vs k) es) (hg : (w.setCell ⟨g, k * 2, none⟩ (.int .i64 num)).grownBy w3 (vs k).ownBlock) : PartCh w3 lo (.slice (some ⟨g, 0, none⟩) n c) n (f.set k ⟨num, es⟩) n vs (xs.set (k * 2) (.int .i64 num)) := by
  have hl : xs.length = n * 2 := h.row.1
  have hsw : ∀ {i j : Nat}, ((vs i).ownBlock = none ∨ (vs i).ownBlock ≠ (vs j).ownBlock) → ((vs j).ownBlock = none ∨ (vs j).ownBlock ≠ (vs i).ownBlock) := by
    intro i j hh
    rcases hh with hh | hh
    · cases hj : (vs j).ownBlock with
      | none => exact .inl rfl
      | some b => exact .inr (by rw [hh]; simp)
    · exact .inr (fun e => hh e.symm)
  refine ⟨?_, ?_, ?_, ?_, ?_⟩
  · refine ((World.ownsRow.stored h.row (k * 2) (.int .i64 num)).1).kept hg (.inr ?_)
    rcases h.aside k (by omega) hk with hh | hh
    · rw [hh]; simp [Value.ownBlock]
    · exact fun e => hh e.symm
  · intro i hi0 hik
    have hi : i < f.length := by simpa using hi0
    by_cases e : i = k
    · subst e
      rw [List.getElem_set_self, List.getElem?_set_self (by omega), List.getElem?_set_ne (by omega)]
      exact ⟨rfl, (h.at_ i hi hik).2⟩
    · rw [List.getElem_set_ne (fun e' => e e'.symm), List.getElem?_set_ne (by omega), List.getElem?_set_ne (by omega)]
      exact h.at_ i hi hik
  · intro i hi0 hik
    have hi : i < f.length := by simpa using hi0
    by_cases e : i = k
    · subst e; rw [List.getElem_set_self]; exact ho
    · rw [List.getElem_set_ne (fun e' => e e'.symm)]
      exact ((World.ownsRow.kept (h.ents i hi hik) grown_set (h.aside i hi hik))).kept hg (h.apart i k hi (by omega) hik hk e)
  · intro i j hi hj hik hjk hne
    rw [List.length_set] at hi hj
    exact h.apart i j hi hj hik hjk hne
  · intro i hi hik
    rw [List.length_set] at hi
    exact h.aside i hi hik

set_option maxRecDepth 4000 in
set_option maxHeartbeats 2000000 in
theorem markChainS_any (lo hi : Nat) (v : Value) (f : List Chn) (q : Nat) (w : World) (hown : OwnChH w lo hi v f) (h1 : 1 ≤ q) (h2 : q ≤ 1000) (hl : f.length ≤ 1048576) (hs : ∀ p ∈ f, p.vs.length ≤ 1048576) :
    Calls Tryz.prog 82 #[v, .int .i64 q] w fun e w' => e = .returned (.int .i64 ((endCh q f : Nat) : Int)) ∧ OwnChH w' lo hi v (marksCh q f) ∧ Chg lo hi w w' := by
  have HH := hown
  obtain ⟨vs, xs0, hP, hv, hvs⟩ := HH
  have hrow := hP.row
  obtain ⟨hr1, hr2⟩ := hrow
  rcases hr2 with ⟨rfl, h0⟩ | ⟨g, c, cur, rfl, hg, _⟩
  · have hf : f = [] := List.length_eq_zero_iff.1 h0
    subst hf
    have HO0 : Hid (OwnChH _ _ _ _ _) := hown
    clear hown hP hv hvs hr1
    go_enter Tryz.func82, Tryz.ntmps82
    go_wp2_with fail
    refine wp_loop_rounds 1 ?_
    rw [rounds_succ]
    go_wp2_with fail
    go_ret
    exact ⟨rfl, HO0.out, Chg.refl _ _ _⟩
  · have HP0 : Hid (PartCh _ _ _ _ _ _ _ _) := hP
    have HV : Hid (∀ b, (Value.slice (some ⟨g, 0, none⟩) f.length c).ownBlock = some b → b < hi) := hv
    have HVS : Hid (∀ i, i < f.length → ∀ b, (vs i).ownBlock = some b → b < hi) := hvs
    have HS : Hid _ := hs
    clear hown hP hv hvs hs hr1
    go_enter Tryz.func82, Tryz.ntmps82
    go_wp2_with fail
    go_loopw [1, 5] (fun x i wr => ∃ (k : Nat) (xs : List Value), k ≤ f.length ∧ i = .int .i64 k ∧ x = .int .i64 ((endCh q (f.take k) : Nat) : Int) ∧ PartCh wr lo (.slice (some ⟨g, 0, none⟩) f.length c) f.length (mixMCh q f k) f.length vs xs ∧ Chg lo hi w wr) (fun _ i _ => f.length - (intOf i).toNat)
    case atStart => exact ⟨0, xs0, Nat.zero_le _, rfl, rfl, by rw [mixMCh_zero]; exact HP0.out, Chg.refl _ _ _⟩
    case round =>
      obtain ⟨k, xs, hk, rfl, rfl, hP, hC⟩ := hrel
      have HC : Hid (Chg _ _ _ _) := hC
      have hz := hC.size
      have hml := mixMCh_len q f k hk
      have hen1 := endCh_ge q (f.take k)
      have hen2 := endCh_le q (f.take k) (fun p hp => HS.out p (List.mem_of_mem_take hp))
      have hen3 : (f.take k).length ≤ 1048576 := by rw [List.length_take]; omega
      have hen4 : (f.take k).length * 5242881 ≤ 1048576 * 5242881 := Nat.mul_le_mul_right _ hen3
      clear hC HP0
      by_cases hlt : k < f.length
      · have hlt2 : (k : Int) < (f.length : Int) := by omega
        have hsk := HS.out f[k] (List.getElem_mem _)
        have hglr : g < wr.heap.size := (hP.row.lt g rfl).2
        obtain ⟨z0, y0⟩ := own_there hP.row (k * 2) (by omega)
        have f0 := World.ownsRow.frozenAt hP.row (k * 2)
        have hat := (hP.at_ k (by omega) hlt).2
        have y1 := owns_cell hP.row _ _ hat
        have hen := hP.ents k (by omega) hlt
        rw [mixMCh_get q f k hlt] at hen
        have hsu := endCh_succ q f k hlt
        have hmset := mixMCh_set q f k hlt
        obtain ⟨E, hE⟩ : ∃ E, E = endCh q (f.take k) := ⟨_, rfl⟩
        rw [← hE] at hen1 hen2 hsu hmset ⊢
        have hen' : OwnVr (wr.setCell ⟨g, k * 2, none⟩ (.int .i64 E)) lo (vs k) f[k].vs := World.ownsRow.kept hen grown_set (hP.aside k (by omega) hlt)
        have HM0 := markVersionS_any lo (vs k) f[k].vs (E + 1) _ hen' (by omega) (by omega) hsk
        rw [show ((E + 1 : Nat) : Int) = (E : Int) + 1 by omega] at HM0
        have HM : Hid (Calls _ _ _ _ _) := HM0
        have HP : Hid (PartCh _ _ _ _ _ _ _ _) := hP
        have HSU : Hid _ := hsu
        have HMS : Hid _ := hmset
        have hgw : lo ≤ g := (hP.row.lt g rfl).1
        have hEb : E ≤ 6000000000000 := by omega
        clear hP hat hen hen' hsu hmset hE hen2 hen3 hen4 HM0
        go_wp2_with fail
        refine HM.out.mono ?_
        rintro e w3 ⟨rfl, hO3, hg3⟩
        have hP3 := HP.out.mark hml hlt hO3 hg3
        rw [HMS.out] at hP3
        have HP3 : Hid (PartCh _ _ _ _ _ _ _ _) := hP3
        have HC3 : Hid (Chg _ _ _ _) := (HC.out.trans (Chg.of_grown grown_set (fun b hb => by injection hb with hb; subst hb; exact ⟨hgw, HV.out _ rfl⟩))).trans (Chg.of_grown hg3 (fun b hb => ⟨(World.ownsRow.lt hO3 b hb).1, HVS.out k hlt b hb⟩))
        have hz3 := hg3.size
        clear hP3 hO3 hg3 HM HP HC
        go_wp2_with fail
        go_roundw
        case rel => exact ⟨k + 1, _, by omega, by go_num, by rw [HSU.out]; go_num, HP3.out, HC3.out⟩
        case measure => simp [intOf]; omega
      · obtain rfl : k = f.length := by omega
        rw [mixMCh_full q f _ rfl] at hP
        rw [List.take_length] at *
        have HP : Hid (PartCh _ _ _ _ _ _ _ _) := hP
        clear hP
        go_wp2_with fail
        go_ret
        exact ⟨rfl, ⟨vs, xs, by rw [marksCh_len]; exact HP.out, HV.out, by rw [marksCh_len]; exact HVS.out⟩, HC.out⟩


end Go.Proofs.YtpfbepbmiillbaaGreatDoor.Co

/- Marks on rows of definitions, and on collections: what the laws' helpers answer, and which memory they change. -/
namespace Go.Proofs.YtpfbepbmiillbaaGreatDoor.Co
open Go.RowKit Tr
set_option linter.unusedVariables false

/-- The definitions that marks leave, from number q on, and the number behind them. -/
def marksDf : Nat → List Dfn → List Dfn
  | _, [] => []
  | q, p :: t => ⟨Tr.mt q, marksPt (q + 1) p.ps.length⟩ :: marksDf (q + 1 + 2 * p.ps.length) t
def endDf : Nat → List Dfn → Nat
  | q, [] => q
  | q, p :: t => endDf (q + 1 + 2 * p.ps.length) t
theorem marksDf_cons (q : Nat) (p : Dfn) (t : List Dfn) : marksDf q (p :: t) = ⟨Tr.mt q, marksPt (q + 1) p.ps.length⟩ :: marksDf (q + 1 + 2 * p.ps.length) t := rfl
theorem endDf_cons (q : Nat) (p : Dfn) (t : List Dfn) : endDf q (p :: t) = endDf (q + 1 + 2 * p.ps.length) t := rfl
theorem marksDf_len : ∀ (q : Nat) (f : List Dfn), (marksDf q f).length = f.length
  | _, [] => rfl
  | q, p :: t => by unfold marksDf; simp [marksDf_len _ t]
theorem marksDf_app : ∀ (q : Nat) (a b : List Dfn), marksDf q (a ++ b) = marksDf q a ++ marksDf (endDf q a) b
  | _, [], b => rfl
  | q, p :: t, b => by
    rw [List.cons_append, marksDf_cons, marksDf_cons, endDf_cons, marksDf_app _ t b]; rfl
theorem endDf_app : ∀ (q : Nat) (a b : List Dfn), endDf q (a ++ b) = endDf (endDf q a) b
  | _, [], b => rfl
  | q, p :: t, b => by
    rw [List.cons_append, endDf_cons, endDf_cons]
    exact endDf_app _ t b
theorem endDf_ge : ∀ (q : Nat) (f : List Dfn), q ≤ endDf q f
  | q, [] => Nat.le_refl _
  | q, p :: t => by
    have := endDf_ge (q + 1 + 2 * p.ps.length) t
    unfold endDf; omega
theorem endDf_le : ∀ (q : Nat) (f : List Dfn), (∀ p ∈ f, p.ps.length ≤ 1048576) → endDf q f ≤ q + f.length * 2097153
  | q, [], _ => by simp [endDf]
  | q, p :: t, h => by
    have h1 := endDf_le (q + 1 + 2 * p.ps.length) t (fun r hr => h r (List.mem_cons_of_mem _ hr))
    have h2 := h p (List.mem_cons_self ..)
    unfold endDf
    rw [List.length_cons, Nat.add_mul]
    omega
/-- The first k definitions marked. -/
def mixMDf (q : Nat) (f : List Dfn) (k : Nat) : List Dfn := marksDf q (f.take k) ++ f.drop k
theorem mixMDf_len (q : Nat) (f : List Dfn) (k : Nat) (h : k ≤ f.length) : (mixMDf q f k).length = f.length := by unfold mixMDf; rw [List.length_append, marksDf_len, List.length_take, List.length_drop]; omega
theorem mixMDf_zero (q : Nat) (f : List Dfn) : mixMDf q f 0 = f := by unfold mixMDf marksDf; simp
theorem mixMDf_full (q : Nat) (f : List Dfn) (k : Nat) (h : k = f.length) : mixMDf q f k = marksDf q f := by subst h; unfold mixMDf; simp
theorem mixMDf_get (q : Nat) (f : List Dfn) (k : Nat) (h : k < f.length) (h2 : k < (mixMDf q f k).length) : (mixMDf q f k)[k] = f[k] := by
  have hl : (marksDf q (f.take k)).length = k := by rw [marksDf_len, List.length_take]; omega
  have e : (mixMDf q f k)[k]? = f[k]? := by
    unfold mixMDf
    rw [List.getElem?_append_right (by omega), hl, Nat.sub_self, List.getElem?_drop]; rfl
  rw [List.getElem?_eq_getElem h2, List.getElem?_eq_getElem h] at e
  exact Option.some.inj e
theorem mixMDf_set (q : Nat) (f : List Dfn) (k : Nat) (h : k < f.length) : (mixMDf q f k).set k ⟨Tr.mt (endDf q (f.take k)), marksPt (endDf q (f.take k) + 1) f[k].ps.length⟩ = mixMDf q f (k + 1) := by
  unfold mixMDf
  have hl : (marksDf q (f.take k)).length = k := by rw [marksDf_len, List.length_take]; omega
  rw [List.set_append_right _ _ (by omega), hl, Nat.sub_self, List.take_succ_eq_append_getElem h, marksDf_app, List.append_assoc]
  congr 1
  rw [List.drop_eq_getElem_cons h]; rfl
theorem endDf_succ (q : Nat) (f : List Dfn) (k : Nat) (h : k < f.length) : endDf q (f.take (k + 1)) = endDf q (f.take k) + 1 + 2 * f[k].ps.length := by
  rw [List.take_succ_eq_append_getElem h, endDf_app]; rfl

theorem PartDf.mark {w w3 : World} {lo g c n : Nat} {f : List Dfn} {vs : Nat → Value} {xs : List Value} (h : PartDf w lo (.slice (some ⟨g, 0, none⟩) n c) n f n vs xs) (hn : f.length = n) {k : Nat} (hk : k < n) {num : ByteArray} {es : List Prt}
    (ho : OwnD w3 lo (vs k) es) (hg : (w.setCell ⟨g, k * 2, none⟩ (.string num)).grownBy w3 (vs k).ownBlock) : PartDf w3 lo (.slice (some ⟨g, 0, none⟩) n c) n (f.set k ⟨num, es⟩) n vs (xs.set (k * 2) (.string num)) := by
  have hl : xs.length = n * 2 := h.row.1
  have hsw : ∀ {i j : Nat}, ((vs i).ownBlock = none ∨ (vs i).ownBlock ≠ (vs j).ownBlock) → ((vs j).ownBlock = none ∨ (vs j).ownBlock ≠ (vs i).ownBlock) := by
    intro i j hh
    rcases hh with hh | hh
    · cases hj : (vs j).ownBlock with
      | none => exact .inl rfl
      | some b => exact .inr (by rw [hh]; simp)
    · exact .inr (fun e => hh e.symm)
  refine ⟨?_, ?_, ?_, ?_, ?_⟩
  · refine ((World.ownsRow.stored h.row (k * 2) (.string num)).1).kept hg (.inr ?_)
    rcases h.aside k (by omega) hk with hh | hh
    · rw [hh]; simp [Value.ownBlock]
    · exact fun e => hh e.symm
  · intro i hi0 hik
    have hi : i < f.length := by simpa using hi0
    by_cases e : i = k
    · subst e
      rw [List.getElem_set_self, List.getElem?_set_self (by omega), List.getElem?_set_ne (by omega)]
      exact ⟨rfl, (h.at_ i hi hik).2⟩
    · rw [List.getElem_set_ne (fun e' => e e'.symm), List.getElem?_set_ne (by omega), List.getElem?_set_ne (by omega)]
      exact h.at_ i hi hik
  · intro i hi0 hik
    have hi : i < f.length := by simpa using hi0
    by_cases e : i = k
    · subst e; rw [List.getElem_set_self]; exact ho
    · rw [List.getElem_set_ne (fun e' => e e'.symm)]
      exact ((World.ownsRow.kept (h.ents i hi hik) grown_set (h.aside i hi hik))).kept hg (h.apart i k hi (by omega) hik hk e)
  · intro i j hi hj hik hjk hne
    rw [List.length_set] at hi hj
    exact h.apart i j hi hj hik hjk hne
  · intro i hi hik
    rw [List.length_set] at hi
    exact h.aside i hi hik

set_option maxRecDepth 4000 in
set_option maxHeartbeats 2000000 in
theorem markDefS_any (lo hi : Nat) (v : Value) (f : List Dfn) (q : Nat) (w : World) (hown : OwnDfH w lo hi v f) (h1 : 1 ≤ q) (h2 : q ≤ 6000000000000) (hl : f.length ≤ 1048576) (hs : ∀ p ∈ f, p.ps.length ≤ 1048576) :
    Calls Tryz.prog 83 #[v, .int .i64 q] w fun e w' => e = .returned (.int .i64 ((endDf q f : Nat) : Int)) ∧ OwnDfH w' lo hi v (marksDf q f) ∧ Chg lo hi w w' := by
  have HH := hown
  obtain ⟨vs, xs0, hP, hv, hvs⟩ := HH
  have hrow := hP.row
  obtain ⟨hr1, hr2⟩ := hrow
  rcases hr2 with ⟨rfl, h0⟩ | ⟨g, c, cur, rfl, hg, _⟩
  · have hf : f = [] := List.length_eq_zero_iff.1 h0
    subst hf
    have HO0 : Hid (OwnDfH _ _ _ _ _) := hown
    clear hown hP hv hvs hr1
    go_enter Tryz.func83, Tryz.ntmps83
    go_wp2_with fail
    refine wp_loop_rounds 1 ?_
    rw [rounds_succ]
    go_wp2_with fail
    go_ret
    exact ⟨rfl, HO0.out, Chg.refl _ _ _⟩
  · have HP0 : Hid (PartDf _ _ _ _ _ _ _ _) := hP
    have HV : Hid (∀ b, (Value.slice (some ⟨g, 0, none⟩) f.length c).ownBlock = some b → b < hi) := hv
    have HVS : Hid (∀ i, i < f.length → ∀ b, (vs i).ownBlock = some b → b < hi) := hvs
    have HS : Hid _ := hs
    clear hown hP hv hvs hs hr1
    go_enter Tryz.func83, Tryz.ntmps83
    go_wp2_with fail
    go_loopw [1, 5] (fun x i wr => ∃ (k : Nat) (xs : List Value), k ≤ f.length ∧ i = .int .i64 k ∧ x = .int .i64 ((endDf q (f.take k) : Nat) : Int) ∧ PartDf wr lo (.slice (some ⟨g, 0, none⟩) f.length c) f.length (mixMDf q f k) f.length vs xs ∧ Chg lo hi w wr) (fun _ i _ => f.length - (intOf i).toNat)
    case atStart => exact ⟨0, xs0, Nat.zero_le _, rfl, rfl, by rw [mixMDf_zero]; exact HP0.out, Chg.refl _ _ _⟩
    case round =>
      obtain ⟨k, xs, hk, rfl, rfl, hP, hC⟩ := hrel
      have HC : Hid (Chg _ _ _ _) := hC
      have hz := hC.size
      have hml := mixMDf_len q f k hk
      have hen1 := endDf_ge q (f.take k)
      have hen2 := endDf_le q (f.take k) (fun p hp => HS.out p (List.mem_of_mem_take hp))
      have hen3 : (f.take k).length ≤ 1048576 := by rw [List.length_take]; omega
      have hen4 : (f.take k).length * 2097153 ≤ 1048576 * 2097153 := Nat.mul_le_mul_right _ hen3
      clear hC HP0
      by_cases hlt : k < f.length
      · have hlt2 : (k : Int) < (f.length : Int) := by omega
        have hsk := HS.out f[k] (List.getElem_mem _)
        have hglr : g < wr.heap.size := (hP.row.lt g rfl).2
        have hat := (hP.at_ k (by omega) hlt).2
        have y1 := owns_cell hP.row _ _ hat
        have hen := hP.ents k (by omega) hlt
        rw [mixMDf_get q f k hlt] at hen
        have hsu := endDf_succ q f k hlt
        have hmset := mixMDf_set q f k hlt
        obtain ⟨E, hE⟩ : ∃ E, E = endDf q (f.take k) := ⟨_, rfl⟩
        rw [← hE] at hen1 hen2 hsu hmset ⊢
        have HEN : Hid (OwnD _ _ _ _) := hen
        have HP0 : Hid (PartDf _ _ _ _ _ _ _ _) := hP
        have HSU : Hid _ := hsu
        have HMS : Hid _ := hmset
        have hgw : lo ≤ g := (hP.row.lt g rfl).1
        have hEb : E ≤ 9000000000000 := by omega
        clear hP hat hen hsu hmset hE hen2 hen3 hen4 y1
        go_wp2_with fail
        refine (markText_at E _ (by omega) (by omega) (by omega) _).mono ?_
        rintro e w2 ⟨rfl, hb2⟩
        have hP := HP0.out.next hb2
        have hen2 := owns_below HEN.out hb2
        obtain ⟨z0, y0⟩ := own_there hP.row (k * 2) (by omega)
        have f0 := World.ownsRow.frozenAt hP.row (k * 2)
        have y1 := owns_cell hP.row _ _ (hP.at_ k (by omega) hlt).2
        have hglr2 : g < w2.heap.size := (hP.row.lt g rfl).2
        have hen' : OwnD (w2.setCell ⟨g, k * 2, none⟩ (.string (Tr.mt E))) lo (vs k) f[k].ps := World.ownsRow.kept hen2 grown_set (hP.aside k (by omega) hlt)
        have HM0 := markPartS_any lo (vs k) f[k].ps (E + 1) _ hen' (by omega) (by omega) hsk
        rw [show ((E + 1 : Nat) : Int) = (E : Int) + 1 by omega] at HM0
        have HM : Hid (Calls _ _ _ _ _) := HM0
        have HP : Hid (PartDf _ _ _ _ _ _ _ _) := hP
        have HC2 : Hid (Chg _ _ _ _) := HC.out.trans (Chg.of_below hb2)
        have hz2 := hb2.size
        clear hP hen2 hen' HM0 HP0 HEN hb2 HC
        go_wp2_with fail
        refine HM.out.mono ?_
        rintro e w3 ⟨rfl, hO3, hg3⟩
        have hP3 := HP.out.mark hml hlt hO3 hg3
        rw [HMS.out] at hP3
        have HP3 : Hid (PartDf _ _ _ _ _ _ _ _) := hP3
        have HC3 : Hid (Chg _ _ _ _) := (HC2.out.trans (Chg.of_grown grown_set (fun b hb => by injection hb with hb; subst hb; exact ⟨hgw, HV.out _ rfl⟩))).trans (Chg.of_grown hg3 (fun b hb => ⟨(World.ownsRow.lt hO3 b hb).1, HVS.out k hlt b hb⟩))
        have hz3 := hg3.size
        clear hP3 hO3 hg3 HM HP HC2
        go_wp2_with fail
        go_roundw
        case rel => exact ⟨k + 1, _, by omega, by go_num, by rw [HSU.out]; go_num, HP3.out, HC3.out⟩
        case measure => simp [intOf]; omega
      · obtain rfl : k = f.length := by omega
        rw [mixMDf_full q f _ rfl] at hP
        rw [List.take_length] at *
        have HP : Hid (PartDf _ _ _ _ _ _ _ _) := hP
        clear hP
        go_wp2_with fail
        go_ret
        exact ⟨rfl, ⟨vs, xs, by rw [marksDf_len]; exact HP.out, HV.out, by rw [marksDf_len]; exact HVS.out⟩, HC.out⟩


end Go.Proofs.YtpfbepbmiillbaaGreatDoor.Co

/- The documents that are seen at a time: what the program and the specification answer. -/
namespace Go.Proofs.YtpfbepbmiillbaaGreatDoor.Co
open Go.RowKit Tr
set_option linter.unusedVariables false

/-- The documents of those chains whose version is not gone. -/
def seenG (V : Chn → Ver) (l : List Chn) : List Val := l.flatMap fun x => if (V x).gone then [] else [(V x).doc]
theorem seenG_gone (V : Chn → Ver) (l : List Chn) (k : Nat) (h : k < l.length) (hg : (V l[k]).gone = true) : seenG V (l.take (k + 1)) = seenG V (l.take k) := by
  unfold seenG; rw [List.take_succ_eq_append_getElem h, List.flatMap_append]; simp [hg]
theorem seenG_there (V : Chn → Ver) (l : List Chn) (k : Nat) (h : k < l.length) (hg : (V l[k]).gone = false) : seenG V (l.take (k + 1)) = seenG V (l.take k) ++ [(V l[k]).doc] := by
  unfold seenG; rw [List.take_succ_eq_append_getElem h, List.flatMap_append]; simp [hg]
theorem seenG_len (V : Chn → Ver) : ∀ l : List Chn, (seenG V l).length ≤ l.length
  | [] => by simp [seenG]
  | x :: r => by
    have := seenG_len V r
    unfold seenG at *
    rw [List.flatMap_cons, List.length_append, List.length_cons]
    split <;> simp only [List.length_nil, List.length_cons] <;> omega
/-- The answer of SeenAt: the documents, and a code. -/
def seenR (c : Col) (snap : Int) : List Val × Int := if collB c = true then (seenG (fun x => (trP snap x.vs).1) c.chs, 0) else ([], 1)
theorem seenR_bad (c : Col) (snap : Int) (h : collB c = false) : seenR c snap = ([], 1) := by unfold seenR; rw [h]; rfl
theorem seenR_ok (c : Col) (snap : Int) (h : collB c = true) : seenR c snap = (seenG (fun x => (trP snap x.vs).1) c.chs, 0) := by unfold seenR; rw [if_pos h]
structure SeenA (L : List Val × Int) (w : World) (e : Ending) (w' : World) : Prop where
  out : ∃ v, e = .returned (.tuple #[v, .int .i64 L.2]) ∧ w'.ownsRow w.heap.size 68 3 v L.1.length (flat L.1)
  bel : Below w.heap.size w w'
theorem trP_sz {c : Col} (h : SzCol c) {x : Chn} (hx : x ∈ c.chs) (snap : Int) : (trP snap x.vs).1.doc.t.size ≤ 1048576 := by
  rcases (trk_mem snap x.vs zG).1 with e | e
  · show (trk snap zG x.vs).1.doc.t.size ≤ _
    rw [e]; show em.size ≤ _; simp [ByteArray.size]
  · exact szVr_of h hx e
theorem boxed_grown {w W W' : World} {a b c : Value} {row : Option Nat} (h : Boxed w W a b c) (hg : W.grownBy W' row) (hr : ∀ j, row = some j → w.heap.size < j) : Boxed w W' a b c :=
  have hb := hg.block w.heap.size h.lt (fun e => by have := hr _ e.symm; omega)
  ⟨Below.grown h.bel hg h.bel.size (fun j hj => Nat.le_of_lt (hr j hj)), Nat.lt_of_lt_of_le h.lt hg.size, (World.cell?_of_block hb).trans h.c0, (World.cell?_of_block hb).trans h.c1, (World.cell?_of_block hb).trans h.c2⟩
/-- A track in its block. -/
structure V6 (U : World) (b : Nat) (v : Ver) (s : Value) : Prop where
  lt : b < U.heap.size
  cb : U.heap[b]? = some (.cells #[.int .i64 v.tm, .bool v.gone, .int .i64 v.doc.k, .int .i64 v.doc.n, .string v.doc.t, s] 131)
theorem V6.new (U : World) (v : Ver) (s : Value) : V6 (U.alloc (.cells #[.int .i64 v.tm, .bool v.gone, .int .i64 v.doc.k, .int .i64 v.doc.n, .string v.doc.t, s] 131)) U.heap.size v s := ⟨by simp, heap_alloc_new _ _⟩

set_option maxRecDepth 4000 in
set_option maxHeartbeats 2000000 in
theorem seenAt_any (c : Col) (snap : Int) (g1 g2 : Nat) (cp cq : Nat) (w : World) (hr : RdC w g1 g2 c) (hs : SzCol c) :
    Calls Tryz.prog 53 #[.agg #[.string c.name, .slice (some ⟨g1, 0, none⟩) c.chs.length cp, .slice (some ⟨g2, 0, none⟩) c.dfs.length cq], .int .i64 snap] w fun e w' => SeenA (seenR c snap) w e w' := by
  have X0 := Boxed.start w (.string c.name) (.slice (some ⟨g1, 0, none⟩) c.chs.length cp) (.slice (some ⟨g2, 0, none⟩) c.dfs.length cq) 63
  have HC : Hid (Calls _ _ _ _ _) := collOK_any c (some ⟨g1, 0, none⟩) (some ⟨g2, 0, none⟩) cp cq (w.alloc (.cells #[.string c.name, .slice (some ⟨g1, 0, none⟩) c.chs.length cp, .slice (some ⟨g2, 0, none⟩) c.dfs.length cq] 63)) (hr.next X0.bel).ch.inCh (hr.next X0.bel).df hs
  have HR : Hid (RdC _ _ _ _) := hr
  have HSZ : Hid (SzCol c) := hs
  obtain ⟨i0, hi0, hz0, hz1, hz2⟩ := info_parts infoV
  clear hr hs
  cases hB : collB c
  · rw [seenR_bad c snap hB]
    rw [hB] at HC
    clear hB
    go_enter Tryz.func53, Tryz.ntmps53
    go_wp2_with fail
    refine HC.out.mono ?_
    rintro e w1 ⟨rfl, hb⟩
    have hbw := (X0.step hb).bel
    clear hb
    go_wp2_with fail
    go_ret2
    exact ⟨⟨_, rfl, ⟨rfl, .inl ⟨rfl, rfl⟩⟩⟩, hbw⟩
  · rw [seenR_ok c snap hB]
    have hpt := collB_parts hB
    have h20 := hpt.2.2.2.1
    have HPT : Hid (∀ x ∈ c.chs, topB x.id = true ∧ 1 ≤ x.vs.length ∧ x.vs.length ≤ 12 ∧ versB x.id 0 x.vs = true) := hpt.2.2.2.2.2
    rw [hB] at HC
    obtain ⟨F, hF⟩ : ∃ F : Chn → Ver, F = fun x => (trP snap x.vs).1 := ⟨_, rfl⟩
    rw [← hF]
    have HF : Hid (F = _) := hF
    clear hB hpt hF
    go_enter Tryz.func53, Tryz.ntmps53
    go_wp2_with fail
    refine HC.out.mono ?_
    rintro e w1 ⟨rfl, hb⟩
    have X1 := X0.step hb
    have c1 := X1.c1
    have HB1 : Hid (Below _ _ _) := X1.bel
    clear hb HC X0
    go_wp2_with fail
    clear c1 X1
    go_loopw [6, 16] (fun u i wr => ∃ k : Nat, k ≤ c.chs.length ∧ i = .int .i64 k ∧ wr.ownsRow w.heap.size 68 3 u (seenG F (c.chs.take k)).length (flat (seenG F (c.chs.take k))) ∧ Below w.heap.size w wr) (fun _ i _ => c.chs.length - (intOf i).toNat)
    case atStart => exact ⟨0, Nat.zero_le _, rfl, ⟨rfl, .inl ⟨rfl, rfl⟩⟩, HB1.out⟩
    case round =>
      obtain ⟨k, hk, rfl, hown, hbel⟩ := hrel
      have HO : Hid (World.ownsRow _ _ _ _ _ _ _) := hown
      have hzr := hbel.size
      clear hown HB1
      by_cases hlt : k < c.chs.length
      · have RDk := HR.out.next hbel
        obtain ⟨x0, pv, cv, x1, hcv, hT⟩ := RDk.ch.cells k hlt
        have hgl := RDk.ch.lt
        have hlt2 : (k : Int) < (c.chs.length : Int) := by omega
        have hvl := (HPT.out c.chs[k] (List.getElem_mem _)).2.2.1
        have hsz := trP_sz HSZ.out (List.getElem_mem (l := c.chs) hlt) snap
        have HGO : Hid ((F c.chs[k]).gone = true → seenG F (c.chs.take (k + 1)) = seenG F (c.chs.take k)) := fun e => seenG_gone F c.chs k hlt e
        have HTH : Hid ((F c.chs[k]).gone = false → seenG F (c.chs.take (k + 1)) = seenG F (c.chs.take k) ++ [(F c.chs[k]).doc]) := fun e => seenG_there F c.chs k hlt e
        have hll := seenG_len F (c.chs.take k)
        rw [List.length_take] at hll
        have HFk : Hid (F c.chs[k] = (trP snap c.chs[k].vs).1) := by rw [HF.out]; rfl
        obtain ⟨x, hx⟩ : ∃ x, x = c.chs[k] := ⟨_, rfl⟩
        rw [← hx] at x0 x1 hcv hT hvl hsz HGO HTH HFk
        have B0 := Box2.start wr (.int .i64 x.id) (.slice pv x.vs.length cv) 66
        have HTR : Hid (Calls _ _ _ _ _) := trackAt_any x.id snap pv cv x.vs (wr.alloc (.cells #[.int .i64 x.id, .slice pv x.vs.length cv] 66)) (hT.step B0.bel) (by omega) hcv
        rw [← HFk.out] at hsz HTR
        have HOW : Hid (∀ W : World, Calls _ _ _ W _) := fun W => ownVer_any (F x) W hsz
        obtain ⟨V, hV⟩ : ∃ V, V = F x := ⟨_, rfl⟩
        rw [← hV] at HGO HTH HTR HOW
        obtain ⟨L, hL⟩ : ∃ L, L = seenG F (c.chs.take k) := ⟨_, rfl⟩
        rw [← hL] at HGO HTH hll HO
        clear RDk hT hvl hsz HFk hx hV hL hcv
        go_wp2_with fail
        refine HTR.out.mono ?_
        rintro e w2 ⟨⟨p', c', rfl, _, _⟩, hb⟩
        have B2 : Below wr.heap.size wr w2 := B0.bel.trans (hb.mono B0.bel.size)
        have hbA : Below w2.heap.size w2 (w2.alloc (.cells #[.int .i64 V.tm, .bool V.gone, .int .i64 V.doc.k, .int .i64 V.doc.n, .string V.doc.t, .slice p' (trP snap x.vs).2.length c'] 131)) := (Below.refl _ _).alloc (Nat.le_refl _) _
        have B3 := B2.trans (hbA.mono B2.size)
        have K3 := V6.new w2 V (.slice p' (trP snap x.vs).2.length c')
        have O3 := owns_below HO.out B3
        have hb3 := hbel.trans (B3.mono hbel.size)
        obtain ⟨q0, q1, q2, q3, q4, q5⟩ := six K3.cb
        clear hb B0 hbA B2 HTR HO B3 x0 x1
        generalize hNN : (trP snap x.vs).2.length = NN at K3 O3 hb3 q0 q1 q2 q3 q4 q5 ⊢
        clear hNN
        cases hg : V.gone
        · have hnx := HTH.out hg
          have HNX : Hid (_ = _) := hnx
          rw [hg] at K3 O3 hb3 q0 q1 q2 q3 q4 q5 HOW
          have HO3 : Hid (World.ownsRow _ _ _ _ _ _ _) := O3
          clear HGO HTH hnx hg O3
          go_wp2_with fail
          generalize w2.alloc (.cells #[.int .i64 V.tm, .bool false, .int .i64 V.doc.k, .int .i64 V.doc.n, .string V.doc.t, .slice p' NN c'] 131) = W3 at K3 HO3 hb3 q0 q1 q2 q3 q4 q5 ⊢
          refine (HOW.out _).mono ?_
          rintro e w4 ⟨rfl, hb⟩
          have O4 := owns_below HO3.out hb
          have hb4 := hb3.trans (hb.mono hb3.size)
          have hz4 := hb4.size
          have hfld : ∀ W : World, (Instr.field 70 (.agg #[.int .i64 V.tm, .bool false, .int .i64 V.doc.k, .int .i64 V.doc.n, .string V.doc.t]) 2).run Tryz.prog W = .ok (.agg #[.int .i64 V.doc.k, .int .i64 V.doc.n, .string V.doc.t]) W := fun _ => by kernel_rfl
          clear hb HOW HO3 hb3 K3 q0 q1 q2 q3 q4 q5
          go_wp2_with (at_builtin; refine wpList_append_own _ rfl (.tmp 27) (.tmp 32) 45 rfl w.heap.size 68 i0 (.agg #[.int .i64 0, .int .i64 0, .string em]) 3 32 Tryz.underlying45 hi0 hz0 hz1 hz2 rfl (by decide) _ _ _ rfl (O4.alloc _) ⟨w4.heap.size, 0, none⟩ 1 1 (row V.doc) rfl rfl ?c1 ?c2 ?c3 ?c4 ?c5 ?_)
          case c1 =>
            intro j u hj
            match j, hj with
            | 0, hj => simp [row] at hj; subst hj; simp [Addr.add, go_sem]
            | 1, hj => simp [row] at hj; subst hj; simp [Addr.add, go_sem]
            | 2, hj => simp [row] at hj; subst hj; simp [Addr.add, go_sem]
            | j + 3, hj => simp [row] at hj
          case c2 => intro u hu; simp [row] at hu; rcases hu with rfl | rfl | rfl <;> rfl
          case c3 => unfold maxLen; omega
          case c4 => omega
          case c5 => simp; omega
          intro v' w6 hown6 hgrow hnv
          have B6 : Below w.heap.size w w6 := Below.grown (hb4.alloc (by omega) _) hgrow (by simp; omega) (fun j hj => by have := (O4.lt j hj).1; omega)
          have HO6 : Hid (World.ownsRow _ _ _ _ _ _ _) := hown6
          clear hown6 hgrow hnv O4 hfld
          go_wp2_with fail
          go_roundw
          case rel => exact ⟨k + 1, by omega, by go_num, by rw [HNX.out, flat_snoc, List.length_append]; exact HO6.out, B6⟩
          case measure => simp [intOf]; omega
        · have hnx := HGO.out hg
          have HNX : Hid (_ = _) := hnx
          rw [hg] at K3 O3 hb3 q0 q1 q2 q3 q4 q5
          have HO3 : Hid (World.ownsRow _ _ _ _ _ _ _) := O3
          clear HGO HTH hnx hg O3 HOW
          go_wp2_with fail
          go_roundw
          case rel => exact ⟨k + 1, by omega, by go_num, by rw [HNX.out]; exact HO3.out, hb3⟩
          case measure => simp [intOf]; omega
      · have hlt2 : ¬ (k : Int) < (c.chs.length : Int) := by omega
        have ht : c.chs.take k = c.chs := List.take_of_length_le (by omega)
        rw [ht] at HO
        clear ht
        go_wp2_with fail
        go_ret2
        exact ⟨⟨_, rfl, HO.out⟩, hbel⟩

set_option maxRecDepth 4000 in
set_option maxHeartbeats 2000000 in
theorem l08Seen_any (n : ByteArray) (q : Value) (chs : List Chn) (snap : Int) (g1 cp : Nat) (w : World) (hr : ReadCc w g1 chs) (hl : chs.length ≤ 1048576) (hs : ∀ x ∈ chs, x.vs.length ≤ 1048576) :
    Calls Tryz.prog 51 #[.agg #[.string n, .slice (some ⟨g1, 0, none⟩) chs.length cp, q], .int .i64 snap] w fun e w' => (∃ v, e = .returned v ∧ w'.ownsRow w.heap.size 68 3 v (seenG (fun x => atS snap zG x.vs) chs).length (flat (seenG (fun x => atS snap zG x.vs) chs))) ∧ Below w.heap.size w w' := by
  have X0 := Boxed.start w (.string n) (.slice (some ⟨g1, 0, none⟩) chs.length cp) q 63
  obtain ⟨i0, hi0, hz0, hz1, hz2⟩ := info_parts infoV
  have HR : Hid (ReadCc _ _ _) := hr
  have HS : Hid _ := hs
  obtain ⟨F, hF⟩ : ∃ F : Chn → Ver, F = fun x => atS snap zG x.vs := ⟨_, rfl⟩
  rw [← hF]
  have HF : Hid (F = _) := hF
  have hbA : Below (w.alloc (.cells #[.string n, .slice (some ⟨g1, 0, none⟩) chs.length cp, q] 63)).heap.size (w.alloc (.cells #[.string n, .slice (some ⟨g1, 0, none⟩) chs.length cp, q] 63)) ((w.alloc (.cells #[.string n, .slice (some ⟨g1, 0, none⟩) chs.length cp, q] 63)).alloc (.cells #[] 68)) := (Below.refl _ _).alloc (Nat.le_refl _) _
  have O1 := World.ownsRow_made (base := w.heap.size + 1) (size := 3) (e := 68) (w.alloc (.cells #[.string n, .slice (some ⟨g1, 0, none⟩) chs.length cp, q] 63)) #[] 0 (by simp) (by unfold maxLen; omega) rfl
  rw [heap_size_alloc] at O1
  have X1 := X0.step hbA
  have HO1 : Hid (World.ownsRow _ _ _ _ _ _ _) := O1
  have HX1 : Hid (Boxed _ _ _ _ _) := X1
  clear hr hs hF O1 X1 X0 hbA
  go_enter Tryz.func51, Tryz.ntmps51
  go_wp2_with fail
  generalize ((w.alloc (.cells #[.string n, .slice (some ⟨g1, 0, none⟩) chs.length cp, q] 63)).alloc (.cells #[] 68)) = W0 at HX1 HO1 ⊢
  go_loopw [5, 6] (fun u i wr => ∃ k : Nat, k ≤ chs.length ∧ i = .int .i64 k ∧ wr.ownsRow (w.heap.size + 1) 68 3 u (seenG F (chs.take k)).length (flat (seenG F (chs.take k))) ∧ Boxed w wr (.string n) (.slice (some ⟨g1, 0, none⟩) chs.length cp) q) (fun _ i _ => chs.length - (intOf i).toNat)
  case atStart => exact ⟨0, Nat.zero_le _, rfl, HO1.out, HX1.out⟩
  case round =>
    obtain ⟨k, hk, rfl, hown, X⟩ := hrel
    have RDk := HR.out.next X.bel
    have HO : Hid (World.ownsRow _ _ _ _ _ _ _) := hown
    have c1 := X.c1
    have hzr := X.bel.size
    have hxl := X.lt
    clear hown HX1 HO1
    by_cases hlt : k < chs.length
    · obtain ⟨x0, pv, cv, x1, hcv, hT⟩ := RDk.cells k hlt
      have hgl := RDk.lt
      have hlt2 : (k : Int) < (chs.length : Int) := by omega
      have hvl := HS.out chs[k] (List.getElem_mem _)
      have HGO : Hid ((F chs[k]).gone = true → seenG F (chs.take (k + 1)) = seenG F (chs.take k)) := fun e => seenG_gone F chs k hlt e
      have HTH : Hid ((F chs[k]).gone = false → seenG F (chs.take (k + 1)) = seenG F (chs.take k) ++ [(F chs[k]).doc]) := fun e => seenG_there F chs k hlt e
      have hll := seenG_len F (chs.take k)
      rw [List.length_take] at hll
      have HFk : Hid (F chs[k] = atS snap zG chs[k].vs) := by rw [HF.out]; rfl
      obtain ⟨x, hx⟩ : ∃ x, x = chs[k] := ⟨_, rfl⟩
      rw [← hx] at x0 x1 hT hvl HGO HTH HFk
      have HTR : Hid (Calls _ _ _ _ _) := l08At_any x.id snap pv cv x.vs wr hT hvl
      rw [← HFk.out] at HTR
      obtain ⟨V, hV⟩ : ∃ V, V = F x := ⟨_, rfl⟩
      rw [← hV] at HGO HTH HTR
      obtain ⟨L, hL⟩ : ∃ L, L = seenG F (chs.take k) := ⟨_, rfl⟩
      rw [← hL] at HGO HTH hll HO
      have HX : Hid (Boxed _ _ _ _ _) := X
      clear RDk hT hvl HFk hx hV hL hcv X
      go_wp2_with fail
      refine HTR.out.mono ?_
      rintro e w2 ⟨rfl, B2⟩
      have hbA : Below w2.heap.size w2 (w2.alloc (.cells #[.int .i64 V.tm, .bool V.gone, .int .i64 V.doc.k, .int .i64 V.doc.n, .string V.doc.t] 70)) := (Below.refl _ _).alloc (Nat.le_refl _) _
      have B3 := B2.trans (hbA.mono B2.size)
      have K3 := V5.new w2 V
      have O3 := owns_below HO.out B3
      have X3 := HX.out.step B3
      have hzB := B2.size
      clear hbA B2 HTR HO B3 x0 x1 HX c1
      obtain ⟨q0, q1, q2, q3, q4⟩ := five K3.cb
      cases hg : V.gone
      · have hnx := HTH.out hg
        have HNX : Hid (_ = _) := hnx
        rw [hg] at O3 X3 q0 q1 q2 q3 q4
        have HO3 : Hid (World.ownsRow _ _ _ _ _ _ _) := O3
        have HX3 : Hid (Boxed _ _ _ _ _) := X3
        clear HGO HTH hnx hg O3 X3 K3
        have hbb : Below (w2.alloc (.cells #[.int .i64 V.tm, .bool false, .int .i64 V.doc.k, .int .i64 V.doc.n, .string V.doc.t] 70)).heap.size (w2.alloc (.cells #[.int .i64 V.tm, .bool false, .int .i64 V.doc.k, .int .i64 V.doc.n, .string V.doc.t] 70)) ((w2.alloc (.cells #[.int .i64 V.tm, .bool false, .int .i64 V.doc.k, .int .i64 V.doc.n, .string V.doc.t] 70)).alloc (.cells #[.int .i64 V.doc.k, .int .i64 V.doc.n, .string V.doc.t] 68)) := (Below.refl _ _).alloc (Nat.le_refl _) _
        have HX4 : Hid (Boxed _ _ _ _ _) := HX3.out.step hbb
        clear HX3 hbb
        go_wp2_with (at_builtin; refine wpList_append_own _ rfl (.tmp 26) (.tmp 29) 45 rfl (w.heap.size + 1) 68 i0 (.agg #[.int .i64 0, .int .i64 0, .string em]) 3 32 Tryz.underlying45 hi0 hz0 hz1 hz2 rfl (by decide) _ _ _ rfl (HO3.out.alloc _) ⟨w2.heap.size + 1, 0, none⟩ 1 1 (row V.doc) rfl rfl ?c1 ?c2 ?c3 ?c4 ?c5 ?_)
        case c1 =>
          intro j u hj
          match j, hj with
          | 0, hj => simp [row] at hj; subst hj; simp [Addr.add, go_sem]
          | 1, hj => simp [row] at hj; subst hj; simp [Addr.add, go_sem]
          | 2, hj => simp [row] at hj; subst hj; simp [Addr.add, go_sem]
          | j + 3, hj => simp [row] at hj
        case c2 => intro u hu; simp [row] at hu; rcases hu with rfl | rfl | rfl <;> rfl
        case c3 => unfold maxLen; omega
        case c4 => omega
        case c5 => simp; omega
        intro v' w6 hown6 hgrow hnv
        have HX6 : Hid (Boxed _ _ _ _ _) := boxed_grown HX4.out hgrow (fun j hj => by have := (HO3.out.lt j hj).1; omega)
        have HO6 : Hid (World.ownsRow _ _ _ _ _ _ _) := hown6
        clear hown6 hgrow hnv HO3 HX4 q0 q1 q2 q3 q4
        go_wp2_with fail
        go_roundw
        case rel => exact ⟨k + 1, by omega, by go_num, by rw [HNX.out, flat_snoc, List.length_append]; exact HO6.out, HX6.out⟩
        case measure => simp [intOf]; omega
      · have hnx := HGO.out hg
        have HNX : Hid (_ = _) := hnx
        rw [hg] at O3 X3 q0 q1 q2 q3 q4
        have HO3 : Hid (World.ownsRow _ _ _ _ _ _ _) := O3
        have HX3 : Hid (Boxed _ _ _ _ _) := X3
        clear HGO HTH hnx hg O3 X3 K3
        go_wp2_with fail
        go_roundw
        case rel => exact ⟨k + 1, by omega, by go_num, by rw [HNX.out]; exact HO3.out, HX3.out⟩
        case measure => simp [intOf]; omega
    · have hlt2 : ¬ (k : Int) < (chs.length : Int) := by omega
      have ht : chs.take k = chs := List.take_of_length_le (by omega)
      rw [ht] at HO
      have hbw := X.bel
      clear ht
      go_wp2_with fail
      go_ret
      exact ⟨⟨_, rfl, owns_mono HO.out (by omega)⟩, hbw⟩

end Go.Proofs.YtpfbepbmiillbaaGreatDoor.Co

/- Marks on collections and on rows of values: what the laws' helpers answer, and which memory they change. -/
namespace Go.Proofs.YtpfbepbmiillbaaGreatDoor.Co
open Go.RowKit Tr
set_option linter.unusedVariables false

/-- Values that are an answer's own. -/
def OV (w : World) (base : Nat) (v : Value) (l : List Val) : Prop := w.ownsRow base 68 3 v l.length (flat l)
/-- Values that can be read. -/
def RV (w : World) (v : Value) (l : List Val) : Prop := ∃ p cap, v = .slice p l.length cap ∧ (l = [] ∨ ∃ g, p = some ⟨g, 0, none⟩ ∧ ReadV w g l)
theorem OV.rv {w : World} {base : Nat} {v : Value} {l : List Val} (h : OV w base v l) : RV w v l := by
  have h' := h
  obtain ⟨_, h2⟩ := h
  rcases h2 with ⟨h2, h3⟩ | ⟨g, cap, cur, hv, _⟩
  · have h4 := List.length_eq_zero_iff.1 h3
    subst h4
    exact ⟨none, 0, h2, .inl rfl⟩
  · subst hv
    exact ⟨_, cap, rfl, .inr ⟨g, rfl, ReadV.of_own h'⟩⟩
theorem RV.next {w w' : World} {v : Value} {l : List Val} (h : RV w v l) (hb : Below w.heap.size w w') : RV w' v l := by
  obtain ⟨p, cap, e, h⟩ := h
  rcases h with h | ⟨g, hp, h⟩
  · exact ⟨p, cap, e, .inl h⟩
  · exact ⟨p, cap, e, .inr ⟨g, hp, h.next hb⟩⟩
/-- Values that lie in blocks below a number can still be read where only later blocks have changed. -/
def RVB (w : World) (B : Nat) (v : Value) (l : List Val) : Prop := ∃ p cap, v = .slice p l.length cap ∧ (l = [] ∨ ∃ g, p = some ⟨g, 0, none⟩ ∧ g < B ∧ ReadV w g l)
theorem OV.rvb {w : World} {base : Nat} {v : Value} {l : List Val} (h : OV w base v l) : RVB w w.heap.size v l := by
  have hlt := World.ownsRow.lt h
  obtain ⟨p, cap, e, h⟩ := h.rv
  rcases h with h | ⟨g, hp, h⟩
  · exact ⟨p, cap, e, .inl h⟩
  · exact ⟨p, cap, e, .inr ⟨g, hp, h.lt, h⟩⟩
theorem RVB.step {w w' : World} {B : Nat} {v : Value} {l : List Val} (h : RVB w B v l) (hb : Below B w w') : RVB w' B v l := by
  obtain ⟨p, cap, e, h⟩ := h
  rcases h with h | ⟨g, hp, hg, h⟩
  · exact ⟨p, cap, e, .inl h⟩
  · exact ⟨p, cap, e, .inr ⟨g, hp, hg, h.step hb hg⟩⟩
theorem RVB.rv {w : World} {B : Nat} {v : Value} {l : List Val} (h : RVB w B v l) : RV w v l := by
  obtain ⟨p, cap, e, h⟩ := h
  rcases h with h | ⟨g, hp, _, h⟩
  · exact ⟨p, cap, e, .inl h⟩
  · exact ⟨p, cap, e, .inr ⟨g, hp, h⟩⟩
theorem eqV_any (v1 v2 : Value) (l : List Val) (w : World) (h1 : RV w v1 l) (h2 : RV w v2 l) (hl : l.length ≤ 1048576) :
    Calls Tryz.prog 23 #[v1, v2] w fun e w' => e = .returned (.bool true) ∧ Below w.heap.size w w' := by
  obtain ⟨p1, c1, rfl, h1⟩ := h1
  obtain ⟨p2, c2, rfl, h2⟩ := h2
  rcases h1 with rfl | ⟨g1, rfl, h1⟩
  · exact eqValueS_nil p1 p2 c1 c2 w
  · rcases h2 with rfl | ⟨g2, rfl, h2⟩
    · exact eqValueS_nil _ _ c1 c2 w
    · exact eqValueS_same g1 c1 g2 c2 l w h1 h2 hl
theorem markV_any (base : Nat) (v : Value) (l : List Val) (w : World) (h : OV w base v l) (hl : l.length ≤ 1000) (hb : base ≤ w.heap.size) :
    Calls Tryz.prog 24 #[v, .int .i64 1] w fun e w' => e = .returned (.int .i64 (1 + 3 * l.length)) ∧ OV w' base v (marks l.length) ∧ Below base w w' := by
  have h' := h
  obtain ⟨_, h2⟩ := h
  rcases h2 with ⟨h2, h3⟩ | ⟨g, cap, cur, hv, _⟩
  · subst h2
    have h4 := List.length_eq_zero_iff.1 h3
    subst h4
    exact (markValueS_nil none 0 w).mono fun e w' ⟨a, b⟩ => ⟨a, ⟨rfl, .inl ⟨rfl, rfl⟩⟩, b.mono hb⟩
  · subst hv
    exact (markValueS_any base g cap l w h' hl hb).mono fun e w' ⟨a, b, c⟩ => ⟨a, by unfold OV; rw [marks_len]; exact b, c⟩
theorem heldV_any (v : Value) (n : Nat) (w : World) (h : RV w v (marks n)) (hn : n ≤ 1000) :
    Calls Tryz.prog 25 #[v, .int .i64 1] w fun e w' => e = .returned (.int .i64 (1 + 3 * n)) ∧ Below w.heap.size w w' := by
  obtain ⟨p, c, rfl, h⟩ := h
  rw [marks_len]
  rcases h with h | ⟨g, rfl, h⟩
  · have h0 : n = 0 := by have := marks_len n; rw [h] at this; simpa using this.symm
    subst h0
    exact heldValueS_nil p c w
  · exact heldValueS_any g c n w h hn
theorem OV.next {w w' : World} {base : Nat} {v : Value} {l : List Val} (h : OV w base v l) (hb : Below w.heap.size w w') : OV w' base v l := owns_below h hb
theorem OV.chg {w w' : World} {base lo hi : Nat} {v : Value} {l : List Val} (h : OV w base v l) (hc : Chg lo hi w w') (hb : hi ≤ base) : OV w' base v l :=
  hc.owns h (fun g hg => .inr (Nat.le_trans hb (World.ownsRow.lt h g hg).1))

end Go.Proofs.YtpfbepbmiillbaaGreatDoor.Co
