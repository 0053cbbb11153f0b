/- How many versions a collection has: what the program and the specification answer. -/
import Derived.Test.YtpfbepbmiillbaaGreatDoorDefOQ
import Derived.Test.YtpfbepbmiillbaaGreatDoorDocBQ
import Derived.Test.YtpfbepbmiillbaaGreatDoorOwnQ
import Derived.Deep.RegionHeld3
namespace Go.Proofs.YtpfbepbmiillbaaGreatDoor.Co
open Go.RowKit Tr
set_option linter.unusedVariables false

end Go.Proofs.YtpfbepbmiillbaaGreatDoor.Co

/- A chain as it stood at some time: what the program and the specification answer. -/
namespace Go.Proofs.YtpfbepbmiillbaaGreatDoor.Co
open Go.RowKit Tr
set_option linter.unusedVariables false

/-- Ahead of its first version a document is as good as gone. -/
def zG : Ver := ⟨0, true, ⟨0, 0, em⟩⟩
/-- The newest version up to a time, and those behind it. -/
def trk (time : Int) : Ver → List Ver → Ver × List Ver
  | cur, [] => (cur, [])
  | cur, v :: r => if v.tm ≤ time then trk time v r else (cur, v :: r)
def trP (time : Int) (l : List Ver) : Ver × List Ver := trk time zG l
theorem trk_yes (time : Int) (cur v : Ver) (r : List Ver) (h : v.tm ≤ time) : trk time cur (v :: r) = trk time v r := by rw [trk, if_pos h]
theorem trk_no (time : Int) (cur v : Ver) (r : List Ver) (h : ¬ v.tm ≤ time) : trk time cur (v :: r) = (cur, v :: r) := by rw [trk, if_neg h]
theorem InVr.tail {w : World} {b off : Nat} {v : Ver} {r : List Ver} (h : InVr w (some ⟨b, off, none⟩) (v :: r)) : InVr w (some ⟨b, off + 5, none⟩) r := by
  rcases h with h | ⟨b', off', e, hlt, hc⟩
  · simp at h
  · injection e with e; injection e with e1 e2; subst e1; subst e2
    refine .inr ⟨b, off + 5, rfl, hlt, fun i hi => ?_⟩
    have := hc (i + 1) (by simp; omega)
    simp only [List.getElem_cons_succ] at this
    rw [show off + 5 + i * 5 = off + (i + 1) * 5 by omega]
    exact this
/-- The track that is being made, and the answer's own place. -/
structure TrB2 (w W : World) (cur : Ver) (s : Value) : Prop where
  bel : Below w.heap.size w W
  rb : W.heap[w.heap.size + 1]? = some (.cells #[.int .i64 0, .bool false, .int .i64 0, .int .i64 0, .string em, .slice none 0 0] 131)
  tb : W.heap[w.heap.size + 2]? = some (.cells #[.int .i64 cur.tm, .bool cur.gone, .int .i64 cur.doc.k, .int .i64 cur.doc.n, .string cur.doc.t, s] 131)
theorem TrB2.put {w W : World} {cur : Ver} {s : Value} (h : TrB2 w W cur s) (v : Ver) (s' : Value) :
    TrB2 w ((((((W.setCell ⟨w.heap.size + 2, 0, none⟩ (.int .i64 v.tm)).setCell ⟨w.heap.size + 2, 1, none⟩ (.bool v.gone)).setCell ⟨w.heap.size + 2, 2, none⟩ (.int .i64 v.doc.k)).setCell ⟨w.heap.size + 2, 3, none⟩ (.int .i64 v.doc.n)).setCell ⟨w.heap.size + 2, 4, none⟩ (.string v.doc.t)).setCell ⟨w.heap.size + 2, 5, none⟩ s') v s' := by
  refine ⟨?_, ?_, ?_⟩
  · have hb := h.bel
    exact (((((hb.setCell (by show w.heap.size ≤ w.heap.size + 2; omega) _).setCell (by show w.heap.size ≤ w.heap.size + 2; omega) _).setCell (by show w.heap.size ≤ w.heap.size + 2; omega) _).setCell (by show w.heap.size ≤ w.heap.size + 2; omega) _).setCell (by show w.heap.size ≤ w.heap.size + 2; omega) _).setCell (by show w.heap.size ≤ w.heap.size + 2; omega) _
  · rw [set_other (by omega), set_other (by omega), set_other (by omega), set_other (by omega), set_other (by omega), set_other (by omega)]; exact h.rb
  · rw [set_same (set_same (set_same (set_same (set_same (set_same h.tb)))))]; rfl
theorem TrB2.drew {w W : World} {cur : Ver} {s : Value} (h : TrB2 w W cur s) : TrB2 w W.drew cur s := ⟨h.bel.drew, h.rb, h.tb⟩
def lenOf : Option Value → Nat
  | some (.slice _ n _) => n
  | _ => 0

set_option maxRecDepth 4000 in
set_option maxHeartbeats 1000000 in
theorem trackAt_any (id time : Int) (p : Option Addr) (cap : Nat) (l : List Ver) (w : World) (hin : InVr w p l) (hl : l.length ≤ 1048576) (hcap : l.length ≤ cap) :
    Calls Tryz.prog 90 #[.agg #[.int .i64 id, .slice p l.length cap], .int .i64 time] w fun e w' => (∃ p' c', e = .returned (.agg #[.int .i64 (trP time l).1.tm, .bool (trP time l).1.gone, .int .i64 (trP time l).1.doc.k, .int .i64 (trP time l).1.doc.n, .string (trP time l).1.doc.t, .slice p' (trP time l).2.length c']) ∧ InVr w p' (trP time l).2 ∧ (trP time l).2.length ≤ c') ∧ Below w.heap.size w w' := by
  obtain ⟨R, hR⟩ : ∃ R, R = trP time l := ⟨_, rfl⟩
  rw [← hR]
  have HR : Hid (R = trk time zG l) := hR
  have HI : Hid (InVr _ _ _) := hin
  clear hR hin
  go_enter Tryz.func90, Tryz.ntmps90
  go_wp2_with fail
  have K0 : TrB2 w (((w.alloc (.cells #[.int .i64 id, .slice p l.length cap] 66)).alloc (.cells #[.int .i64 0, .bool false, .int .i64 0, .int .i64 0, .string em, .slice none 0 0] 131)).alloc (.cells #[.int .i64 0, .bool true, .int .i64 0, .int .i64 0, .string em, .slice p l.length cap] 131)) zG (.slice p l.length cap) := by
    refine ⟨by (repeat (first | (with_reducible exact Below.refl _ _) | (with_reducible assumption) | (with_reducible apply below_drewN) | (with_reducible apply Below.drew) | ((with_reducible refine Below.setCell ?_ ?_ _); rotate_left; focus (first | (simp; done) | (simp; omega) | omega)) | ((with_reducible refine Below.alloc ?_ ?_ _); rotate_left; focus (first | (simp; done) | (simp; omega) | omega)))), ?_, ?_⟩
    · rw [heap_alloc_old _ _ (by simp)]
      have := heap_alloc_new (w.alloc (.cells #[.int .i64 id, .slice p l.length cap] 66)) (.cells #[.int .i64 0, .bool false, .int .i64 0, .int .i64 0, .string em, .slice none 0 0] 131)
      rw [heap_size_alloc] at this; exact this
    · have := heap_alloc_new ((w.alloc (.cells #[.int .i64 id, .slice p l.length cap] 66)).alloc (.cells #[.int .i64 0, .bool false, .int .i64 0, .int .i64 0, .string em, .slice none 0 0] 131)) (.cells #[.int .i64 0, .bool true, .int .i64 0, .int .i64 0, .string em, .slice p l.length cap] 131)
      rw [heap_size_alloc, heap_size_alloc] at this; exact this
  generalize (((w.alloc (.cells #[.int .i64 id, .slice p l.length cap] 66)).alloc (.cells #[.int .i64 0, .bool false, .int .i64 0, .int .i64 0, .string em, .slice none 0 0] 131)).alloc (.cells #[.int .i64 0, .bool true, .int .i64 0, .int .i64 0, .string em, .slice p l.length cap] 131)) = W0 at K0 ⊢
  go_loopw [13] (fun u wr => ∃ (cur : Ver) (r : List Ver) (p' : Option Addr) (c' : Nat), R = trk time cur r ∧ TrB2 w wr cur (.slice p' r.length c') ∧ InVr w p' r ∧ r.length ≤ c' ∧ r.length ≤ 1048576) (fun _ wr => lenOf (wr.cell? ⟨w.heap.size + 2, 5, none⟩))
  case atStart => exact ⟨zG, l, p, cap, HR.out, K0, HI.out, hcap, hl⟩
  case round =>
    obtain ⟨cur, r, p', c', hall, K, hin, hc, hrl⟩ := hrel
    obtain ⟨t0, t1, t2, t3, t4, t5⟩ := six K.tb
    have hs := fun o => soft K.tb o
    clear K0 HI HR
    cases r with
    | nil =>
      have HF : Hid (R = (cur, [])) := hall
      have hbw := K.bel
      obtain ⟨q0, q1, q2, q3, q4, q5⟩ := six K.rb
      have hq := fun o => soft K.rb o
      clear hall hin hc
      simp only [List.length_nil] at t5
      go_wp2_with fail
      refine bodyPost_ret (v := .agg #[.int .i64 cur.tm, .bool cur.gone, .int .i64 cur.doc.k, .int .i64 cur.doc.n, .string cur.doc.t, .slice p' 0 c']) (by simp [results, Tryz.results90, go_sem, *]) rfl ⟨⟨p', c', by rw [HF.out]; rfl, by rw [HF.out]; exact .inl rfl, by rw [HF.out]; exact Nat.zero_le _⟩, ?_⟩
      (repeat (first | (with_reducible exact Below.refl _ _) | (with_reducible assumption) | (with_reducible apply below_drewN) | (with_reducible apply Below.drew) | ((with_reducible refine Below.setCell ?_ ?_ _); rotate_left; focus (first | (simp; done) | (simp; omega) | omega)) | ((with_reducible refine Below.alloc ?_ ?_ _); rotate_left; focus (first | (simp; done) | (simp; omega) | omega))))
    | cons v r' =>
      rcases hin.step K.bel with h0 | ⟨b, off, rfl, hbl, hcell⟩
      · simp at h0
      obtain ⟨x0, x1, x2, x3, x4⟩ := hcell 0 (by simp)
      simp only [List.getElem_cons_zero, Nat.zero_mul, Nat.add_zero] at x0 x1 x2 x3 x4
      have hlp : (0 : Int) < ((v :: r').length : Int) := by simp
      have hlr : (v :: r').length = r'.length + 1 := rfl
      by_cases hle : v.tm ≤ time
      · rw [trk_yes time cur v r' hle] at hall
        have HA : Hid (R = trk time v r') := hall
        have hbw := K.bel
        clear hall hcell
        go_wp2_with fail
        go_region
        have hin2 : InVr w (if c' = 1 then some ⟨b, off, none⟩ else some ⟨b, off + 5, none⟩) r' := by
          have hc3 : r'.length + 1 ≤ c' := hc
          by_cases h1 : c' = 1
          · rw [if_pos h1]; exact .inl (by omega)
          · rw [if_neg h1]; exact InVr.tail hin
        have hc3 : r'.length ≤ c' - 1 := by have : r'.length + 1 ≤ c' := hc; omega
        have hl3 : r'.length ≤ 1048576 := by have : r'.length + 1 ≤ 1048576 := hrl; omega
        have K2 := (K.put v (.slice (if c' = 1 then some ⟨b, off, none⟩ else some ⟨b, off + 5, none⟩) r'.length (c' - 1))).drew
        go_wp2_with fail
        go_roundw
        case rel => exact ⟨v, r', _, c' - 1, HA.out, K2, hin2, hc3, hl3⟩
        case measure =>
          have e1 := (six K2.tb).2.2.2.2.2
          show lenOf (World.cell? _ ⟨w.heap.size + 2, 5, none⟩) < _
          rw [t5]
          refine Nat.lt_of_le_of_lt (Nat.le_of_eq (congrArg lenOf e1)) ?_
          show r'.length < (v :: r').length
          simp
      · rw [trk_no time cur v r' hle] at hall
        have HF : Hid (R = (cur, v :: r')) := hall
        have hbw := K.bel
        obtain ⟨q0, q1, q2, q3, q4, q5⟩ := six K.rb
        have hq := fun o => soft K.rb o
        have HIN : Hid (InVr _ _ _) := hin
        have hc2 : (v :: r').length ≤ c' := hc
        clear hall hcell hin
        obtain ⟨N, hN⟩ : ∃ N, N = (v :: r').length := ⟨_, rfl⟩
        rw [← hN] at t5 hlp hc2
        go_wp2_with fail
        refine bodyPost_ret (v := .agg #[.int .i64 cur.tm, .bool cur.gone, .int .i64 cur.doc.k, .int .i64 cur.doc.n, .string cur.doc.t, .slice (some ⟨b, off, none⟩) N c']) (by simp [results, Tryz.results90, go_sem, *]) rfl ⟨⟨_, c', by rw [HF.out, hN], by rw [HF.out]; exact HIN.out, by rw [HF.out]; exact hc⟩, ?_⟩
        (repeat (first | (with_reducible exact Below.refl _ _) | (with_reducible assumption) | (with_reducible apply below_drewN) | (with_reducible apply Below.drew) | ((with_reducible refine Below.setCell ?_ ?_ _); rotate_left; focus (first | (simp; done) | (simp; omega) | omega)) | ((with_reducible refine Below.alloc ?_ ?_ _); rotate_left; focus (first | (simp; done) | (simp; omega) | omega))))

end Go.Proofs.YtpfbepbmiillbaaGreatDoor.Co

/- Copies of versions, and where a chain stands: what the program answers. -/
namespace Go.Proofs.YtpfbepbmiillbaaGreatDoor.Co
open Go.RowKit Tr
set_option linter.unusedVariables false

/-- A version's five cells in the first new block, five empty ones that may be written in the second. -/
structure OwnVe (w W : World) (t : Ver) : Prop where
  bel : Below w.heap.size w W
  lt : w.heap.size + 1 < W.heap.size
  cb : W.heap[w.heap.size]? = some (.cells #[.int .i64 t.tm, .bool t.gone, .int .i64 t.doc.k, .int .i64 t.doc.n, .string t.doc.t] 70)
  db : W.heap[w.heap.size + 1]? = some (.cells #[.int .i64 0, .bool false, .int .i64 0, .int .i64 0, .string em] 70)
theorem OwnVe.start (w : World) (t : Ver) : OwnVe w ((w.alloc (.cells #[.int .i64 t.tm, .bool t.gone, .int .i64 t.doc.k, .int .i64 t.doc.n, .string t.doc.t] 70)).alloc (.cells #[.int .i64 0, .bool false, .int .i64 0, .int .i64 0, .string em] 70)) t := by
  refine ⟨((Below.refl _ _).alloc (Nat.le_refl _) _).alloc (by simp) _, by simp, ?_, ?_⟩
  · rw [heap_alloc_old _ _ (by simp)]; exact heap_alloc_new _ _
  · have := heap_alloc_new (w.alloc (.cells #[.int .i64 t.tm, .bool t.gone, .int .i64 t.doc.k, .int .i64 t.doc.n, .string t.doc.t] 70)) (.cells #[.int .i64 0, .bool false, .int .i64 0, .int .i64 0, .string em] 70)
    rw [heap_size_alloc] at this; exact this
theorem OwnVe.step {w W W' : World} {t : Ver} (h : OwnVe w W t) (hb : Below W.heap.size W W') : OwnVe w W' t :=
  have hl : w.heap.size < W.heap.size := Nat.lt_of_succ_lt h.lt
  ⟨h.bel.trans (hb.mono h.bel.size), Nat.lt_of_lt_of_le h.lt hb.size, (hb.block _ hl).trans h.cb, (hb.block _ h.lt).trans h.db⟩
/-- Chains that rise. -/
def RiseC (l : List Chn) : Prop := ∀ i j (hi : i < l.length) (hj : j < l.length), i < j → l[i].id < l[j].id
/-- Where the chain of an id stands, or would, and whether it does. -/
structure PlaceC (l : List Chn) (id : Int) (i : Nat) (b : Bool) : Prop where
  le : i ≤ l.length
  lo : ∀ q (h : q < l.length), q < i → l[q].id < id
  hi : ∀ q (h : q < l.length), i ≤ q → id ≤ l[q].id
  at_ : b = true ↔ ∃ h : i < l.length, l[i].id = id
def findC (id : Int) (l : List Chn) : Option Chn := l.find? (fun x => decide (x.id = id))
theorem findC_none (id : Int) : ∀ l : List Chn, (∀ x ∈ l, x.id ≠ id) → findC id l = none
  | [], _ => rfl
  | x :: r, h => by
    show List.find? _ (x :: r) = none
    rw [List.find?_cons, decide_eq_false (h x (by simp))]
    exact findC_none id r (fun y hy => h y (by simp [hy]))
theorem findC_at (id : Int) : ∀ (l : List Chn) (i : Nat) (hi : i < l.length), (∀ q (h : q < l.length), q < i → l[q].id ≠ id) → l[i].id = id → findC id l = some l[i]
  | x :: r, 0, _, _, e => by
    show List.find? _ (x :: r) = _
    rw [List.find?_cons, decide_eq_true (show x.id = id from e)]; rfl
  | x :: r, i + 1, hi, hlo, e => by
    show List.find? _ (x :: r) = _
    rw [List.find?_cons, decide_eq_false (show ¬ x.id = id from hlo 0 (by simp) (by omega))]
    exact findC_at id r i (by simpa using hi) (fun q h hq => hlo (q + 1) (by simpa using h) (by omega)) e
theorem PlaceC.some {l : List Chn} {id : Int} {i : Nat} (h : PlaceC l id i true) : ∃ hi : i < l.length, l[i].id = id ∧ findC id l = some l[i] := by
  obtain ⟨hi, e⟩ := h.at_.1 rfl
  exact ⟨hi, e, findC_at id l i hi (fun q hq hlt => by have := h.lo q hq hlt; omega) e⟩
theorem PlaceC.none {l : List Chn} {id : Int} {i : Nat} (hr : RiseC l) (h : PlaceC l id i false) : findC id l = none := by
  apply findC_none
  intro x hx e
  obtain ⟨q, hq, rfl⟩ := List.getElem_of_mem hx
  have hlt : ¬ q < i := fun hlt => by have := h.lo q hq hlt; omega
  have hi : i < l.length := by omega
  have h1 := h.hi i hi (Nat.le_refl _)
  have hne : l[i].id ≠ id := fun e2 => by have := h.at_.2 ⟨hi, e2⟩; cases this
  rcases Nat.lt_or_ge i q with hlq | hge
  · have := hr i q hi hq hlq; omega
  · obtain rfl : q = i := by omega
    exact hne e
end Go.Proofs.YtpfbepbmiillbaaGreatDoor.Co

/- The newest version of a chain: what the program and the specification answer. -/
namespace Go.Proofs.YtpfbepbmiillbaaGreatDoor.Co
open Go.RowKit Tr
set_option linter.unusedVariables false

/-- A row of chains at a block's head, whose rows of versions have their room. -/
structure ReadCc (w : World) (g : Nat) (f : List Chn) : Prop where
  lt : g < w.heap.size
  cells : ∀ i (h : i < f.length), w.cell? ⟨g, i * 2, none⟩ = some (.int .i64 f[i].id) ∧ ∃ p cap, w.cell? ⟨g, i * 2 + 1, none⟩ = some (.slice p f[i].vs.length cap) ∧ f[i].vs.length ≤ cap ∧ InVr w p f[i].vs
theorem ReadCc.next {w w' : World} {g : Nat} {f : List Chn} (h : ReadCc w g f) (hb : Below w.heap.size w w') : ReadCc w' g f :=
  ⟨Nat.lt_of_lt_of_le h.lt hb.size, fun i hi => by
    obtain ⟨h0, p, cap, hc, hl, hr⟩ := h.cells i hi
    exact ⟨(hb.cell h.lt).trans h0, p, cap, (hb.cell h.lt).trans hc, hl, hr.step hb⟩⟩
theorem ReadCc.read {w : World} {g : Nat} {f : List Chn} (h : ReadCc w g f) : ReadCh w g f :=
  ⟨h.lt, fun i hi => by
    obtain ⟨h0, p, cap, hc, _, hr⟩ := h.cells i hi
    exact ⟨h0, p, cap, hc, hr⟩⟩
theorem ReadCc.inCh {w : World} {g : Nat} {f : List Chn} (h : ReadCc w g f) : InCh w (some ⟨g, 0, none⟩) f := InVr.rowOf h.read
theorem OwnVr.room {w : World} {base : Nat} {v : Value} {l : List Ver} (h : OwnVr w base v l) : ∃ p cap, v = .slice p l.length cap ∧ l.length ≤ cap ∧ InVr w p l := by
  have h' := h
  obtain ⟨_, h2⟩ := h
  rcases h2 with ⟨h2, h3⟩ | ⟨g, cap, cur, hv, _, _, hc, _⟩
  · have h4 := List.length_eq_zero_iff.1 h3
    subst h4
    exact ⟨none, 0, h2, Nat.zero_le _, .inl rfl⟩
  · obtain ⟨p, c, e1, e2⟩ := h'.inVr
    rw [hv] at e1
    injection e1 with a1 a2 a3
    subst a3
    exact ⟨p, cap, by rw [hv, a1], hc, e2⟩
theorem OwnCh.readCc {w : World} {base g cap n : Nat} {f : List Chn} (h : OwnCh w base (.slice (some ⟨g, 0, none⟩) n cap) f) : ReadCc w g f := by
  obtain ⟨vs, xs, h⟩ := h
  exact ⟨(h.row.lt g rfl).2, fun i hi => by
    obtain ⟨a0, a1⟩ := h.at_ i hi hi
    obtain ⟨p, c, e1, e3, e2⟩ := OwnVr.room (h.ents i hi hi)
    exact ⟨owns_cell h.row _ _ a0, p, c, by rw [← e1]; exact owns_cell h.row _ _ a1, e3, e2⟩⟩
/-- A collection that can be read, with its room. -/
structure RdC (w : World) (g1 g2 : Nat) (c : Col) : Prop where
  ch : ReadCc w g1 c.chs
  df : RowDf w (some ⟨g2, 0, none⟩) c.dfs
theorem RdC.next {w w' : World} {g1 g2 : Nat} {c : Col} (h : RdC w g1 g2 c) (hb : Below w.heap.size w w') : RdC w' g1 g2 c := ⟨h.ch.next hb, h.df.next hb⟩
set_option maxRecDepth 4000 in
set_option maxHeartbeats 1000000 in
theorem trackNow_any (id : Int) (p : Option Addr) (cap : Nat) (l : List Ver) (w : World) (hin : InVr w p l) (hl : l.length ≤ 1048576) (hcap : l.length ≤ cap) :
    Calls Tryz.prog 78 #[.agg #[.int .i64 id, .slice p l.length cap]] w fun e w' => (∃ p' n' c', e = .returned (.agg #[.int .i64 (trP 10000 l).1.tm, .bool (trP 10000 l).1.gone, .int .i64 (trP 10000 l).1.doc.k, .int .i64 (trP 10000 l).1.doc.n, .string (trP 10000 l).1.doc.t, .slice p' n' c'])) ∧ Below w.heap.size w w' := by
  have hb0 : Below w.heap.size w ((w.alloc (.cells #[.int .i64 id, .slice p l.length cap] 66)).alloc (.cells #[.int .i64 0, .bool false, .int .i64 0, .int .i64 0, .string em, .slice none 0 0] 131)) := ((Below.refl _ _).alloc (Nat.le_refl _) _).alloc (by simp) _
  have hrb : ((w.alloc (.cells #[.int .i64 id, .slice p l.length cap] 66)).alloc (.cells #[.int .i64 0, .bool false, .int .i64 0, .int .i64 0, .string em, .slice none 0 0] 131)).heap[w.heap.size + 1]? = some (.cells #[.int .i64 0, .bool false, .int .i64 0, .int .i64 0, .string em, .slice none 0 0] 131) := by
    have := heap_alloc_new (w.alloc (.cells #[.int .i64 id, .slice p l.length cap] 66)) (.cells #[.int .i64 0, .bool false, .int .i64 0, .int .i64 0, .string em, .slice none 0 0] 131)
    rw [heap_size_alloc] at this; exact this
  have HC : Hid (Calls _ _ _ _ _) := trackAt_any id 10000 p cap l _ (hin.step hb0) hl hcap
  obtain ⟨R, hR⟩ : ∃ R, R = trP 10000 l := ⟨_, rfl⟩
  rw [← hR] at HC ⊢
  clear hR hin
  go_enter Tryz.func78, Tryz.ntmps78
  go_wp2_with fail
  generalize (w.alloc (.cells #[.int .i64 id, .slice p l.length cap] 66)).alloc (.cells #[.int .i64 0, .bool false, .int .i64 0, .int .i64 0, .string em, .slice none 0 0] 131) = W0 at hb0 hrb HC ⊢
  have hl0 : w.heap.size + 1 < W0.heap.size := by
    rcases Nat.lt_or_ge (w.heap.size + 1) W0.heap.size with h | h
    · exact h
    · rw [Array.getElem?_eq_none h] at hrb; cases hrb
  refine HC.out.mono ?_
  rintro e w1 ⟨⟨p', c', rfl, _, _⟩, hb⟩
  have hrb1 := (hb.block _ hl0).trans hrb
  obtain ⟨q0, q1, q2, q3, q4, q5⟩ := six hrb1
  have hq := fun o => soft hrb1 o
  have hbw := hb0.trans (hb.mono hb0.size)
  clear hb HC
  go_wp2_with fail
  refine bodyPost_ret (v := .agg #[.int .i64 R.1.tm, .bool R.1.gone, .int .i64 R.1.doc.k, .int .i64 R.1.doc.n, .string R.1.doc.t, .slice p' R.2.length c']) (by simp [results, Tryz.results78, go_sem, *]) rfl ⟨⟨p', _, c', rfl⟩, ?_⟩
  (repeat (first | (with_reducible exact Below.refl _ _) | (with_reducible assumption) | (with_reducible apply below_drewN) | (with_reducible apply Below.drew) | ((with_reducible refine Below.setCell ?_ ?_ _); rotate_left; focus (first | (simp; done) | (simp; omega) | omega)) | ((with_reducible refine Below.alloc ?_ ?_ _); rotate_left; focus (first | (simp; done) | (simp; omega) | omega))))

end Go.Proofs.YtpfbepbmiillbaaGreatDoor.Co
