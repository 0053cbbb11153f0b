/- The newest version of a chain: what the program and the specification answer. -/
import Derived.Test.YtkafanjfjplakaaGreatDoorColU
namespace Go.Proofs.YtkafanjfjplakaaGreatDoor.Co
open Go.RowKit Tr
set_option linter.unusedVariables false

/-- A row of chains at a block's head, whose rows of versions have their room. -/
structure ReadCc (w : World) (g : Nat) (f : List Chn) : Prop where
  lt : g < w.heap.size
  cells : ∀ i (h : i < f.length), w.cell? ⟨g, i * 2, none⟩ = some (.int .i64 f[i].id) ∧ ∃ p cap, w.cell? ⟨g, i * 2 + 1, none⟩ = some (.slice p f[i].vs.length cap) ∧ f[i].vs.length ≤ cap ∧ InVr w p f[i].vs
theorem ReadCc.next {w w' : World} {g : Nat} {f : List Chn} (h : ReadCc w g f) (hb : Below w.heap.size w w') : ReadCc w' g f :=
  ⟨Nat.lt_of_lt_of_le h.lt hb.size, fun i hi => by
    obtain ⟨h0, p, cap, hc, hl, hr⟩ := h.cells i hi
    exact ⟨(hb.cell h.lt).trans h0, p, cap, (hb.cell h.lt).trans hc, hl, hr.step hb⟩⟩
theorem ReadCc.read {w : World} {g : Nat} {f : List Chn} (h : ReadCc w g f) : ReadCh w g f :=
  ⟨h.lt, fun i hi => by
    obtain ⟨h0, p, cap, hc, _, hr⟩ := h.cells i hi
    exact ⟨h0, p, cap, hc, hr⟩⟩
theorem ReadCc.inCh {w : World} {g : Nat} {f : List Chn} (h : ReadCc w g f) : InCh w (some ⟨g, 0, none⟩) f := InVr.rowOf h.read
theorem OwnVr.room {w : World} {base : Nat} {v : Value} {l : List Ver} (h : OwnVr w base v l) : ∃ p cap, v = .slice p l.length cap ∧ l.length ≤ cap ∧ InVr w p l := by
  have h' := h
  obtain ⟨_, h2⟩ := h
  rcases h2 with ⟨h2, h3⟩ | ⟨g, cap, cur, hv, _, _, hc, _⟩
  · have h4 := List.length_eq_zero_iff.1 h3
    subst h4
    exact ⟨none, 0, h2, Nat.zero_le _, .inl rfl⟩
  · obtain ⟨p, c, e1, e2⟩ := h'.inVr
    rw [hv] at e1
    injection e1 with a1 a2 a3
    subst a3
    exact ⟨p, cap, by rw [hv, a1], hc, e2⟩
theorem OwnCh.readCc {w : World} {base g cap n : Nat} {f : List Chn} (h : OwnCh w base (.slice (some ⟨g, 0, none⟩) n cap) f) : ReadCc w g f := by
  obtain ⟨vs, xs, h⟩ := h
  exact ⟨(h.row.lt g rfl).2, fun i hi => by
    obtain ⟨a0, a1⟩ := h.at_ i hi hi
    obtain ⟨p, c, e1, e3, e2⟩ := OwnVr.room (h.ents i hi hi)
    exact ⟨owns_cell h.row _ _ a0, p, c, by rw [← e1]; exact owns_cell h.row _ _ a1, e3, e2⟩⟩
/-- A collection that can be read, with its room. -/
structure RdC (w : World) (g1 g2 : Nat) (c : Col) : Prop where
  ch : ReadCc w g1 c.chs
  df : RowDf w (some ⟨g2, 0, none⟩) c.dfs
theorem RdC.next {w w' : World} {g1 g2 : Nat} {c : Col} (h : RdC w g1 g2 c) (hb : Below w.heap.size w w') : RdC w' g1 g2 c := ⟨h.ch.next hb, h.df.next hb⟩
theorem RdC.rd {w : World} {g1 g2 : Nat} {c : Col} (h : RdC w g1 g2 c) : RdCol w g1 g2 c := ⟨.inr ⟨g1, rfl, h.ch.read⟩, h.df⟩
theorem rdC_of {w : World} {lo mid hi g1 g2 n m c1 c2 : Nat} {c : Col} (h1 : OwnChH w lo mid (.slice (some ⟨g1, 0, none⟩) n c1) c.chs) (h2 : OwnDfH w mid hi (.slice (some ⟨g2, 0, none⟩) m c2) c.dfs) : RdC w g1 g2 c := ⟨h1.own.readCc, h2.own.rowDf⟩

/-- The newest version of an id, and a code. -/
def lastR (c : Col) (id : Int) : Ver × Int := if collB c = true then (match findC id c.chs with | some x => ((trP 10000 x.vs).1, 0) | none => (zVr, 5)) else (zVr, 1)
theorem lastR_bad (c : Col) (id : Int) (h : collB c = false) : lastR c id = (zVr, 1) := by unfold lastR; rw [h]; rfl
theorem lastR_none (c : Col) (id : Int) (h : collB c = true) (hf : findC id c.chs = none) : lastR c id = (zVr, 5) := by unfold lastR; rw [if_pos h, hf]
theorem lastR_some (c : Col) (id : Int) (x : Chn) (h : collB c = true) (hf : findC id c.chs = some x) : lastR c id = ((trP 10000 x.vs).1, 0) := by unfold lastR; rw [if_pos h, hf]
theorem trP_now {id : Int} {l : List Ver} (h : versB id 0 l = true) (hl : 1 ≤ l.length) : (trP 10000 l).1 ∈ l ∧ 1 ≤ (trP 10000 l).1.tm := by
  cases l with
  | nil => simp at hl
  | cons v r =>
    have h' := h
    rw [versB] at h
    simp only [Bool.and_eq_true, decide_eq_true_eq, timeB] at h
    obtain ⟨a1, a2, a3, a4⟩ := h
    have e : trP 10000 (v :: r) = trk 10000 v r := trk_yes 10000 zG v r a2.2
    have hm : (trP 10000 (v :: r)).1 ∈ v :: r := by
      rw [e]
      rcases (trk_mem 10000 r v).1 with h | h
      · rw [h]; simp
      · simp [h]
    have := versB_rise id (v :: r) 0 h' _ hm
    exact ⟨hm, by omega⟩
set_option maxRecDepth 4000 in
set_option maxHeartbeats 1000000 in
theorem trackNow_any (id : Int) (p : Option Addr) (cap : Nat) (l : List Ver) (w : World) (hin : InVr w p l) (hl : l.length ≤ 1048576) (hcap : l.length ≤ cap) :
    Calls Tryz.prog 125 #[.agg #[.int .i64 id, .slice p l.length cap]] w fun e w' => (∃ p' n' c', e = .returned (.agg #[.int .i64 (trP 10000 l).1.tm, .bool (trP 10000 l).1.gone, .int .i64 (trP 10000 l).1.doc.k, .int .i64 (trP 10000 l).1.doc.n, .string (trP 10000 l).1.doc.t, .slice p' n' c'])) ∧ Below w.heap.size w w' := by
  have hb0 : Below w.heap.size w ((w.alloc (.cells #[.int .i64 id, .slice p l.length cap] 94)).alloc (.cells #[.int .i64 0, .bool false, .int .i64 0, .int .i64 0, .string em, .slice none 0 0] 98)) := ((Below.refl _ _).alloc (Nat.le_refl _) _).alloc (by simp) _
  have hrb : ((w.alloc (.cells #[.int .i64 id, .slice p l.length cap] 94)).alloc (.cells #[.int .i64 0, .bool false, .int .i64 0, .int .i64 0, .string em, .slice none 0 0] 98)).heap[w.heap.size + 1]? = some (.cells #[.int .i64 0, .bool false, .int .i64 0, .int .i64 0, .string em, .slice none 0 0] 98) := by
    have := heap_alloc_new (w.alloc (.cells #[.int .i64 id, .slice p l.length cap] 94)) (.cells #[.int .i64 0, .bool false, .int .i64 0, .int .i64 0, .string em, .slice none 0 0] 98)
    rw [heap_size_alloc] at this; exact this
  have HC : Hid (Calls _ _ _ _ _) := trackAt_any id 10000 p cap l _ (hin.step hb0) hl hcap
  obtain ⟨R, hR⟩ : ∃ R, R = trP 10000 l := ⟨_, rfl⟩
  rw [← hR] at HC ⊢
  clear hR hin
  go_enter Tryz.func125, Tryz.ntmps125
  go_wp2_with fail
  generalize (w.alloc (.cells #[.int .i64 id, .slice p l.length cap] 94)).alloc (.cells #[.int .i64 0, .bool false, .int .i64 0, .int .i64 0, .string em, .slice none 0 0] 98) = W0 at hb0 hrb HC ⊢
  have hl0 : w.heap.size + 1 < W0.heap.size := by
    rcases Nat.lt_or_ge (w.heap.size + 1) W0.heap.size with h | h
    · exact h
    · rw [Array.getElem?_eq_none h] at hrb; cases hrb
  refine HC.out.mono ?_
  rintro e w1 ⟨⟨p', c', rfl, _, _⟩, hb⟩
  have hrb1 := (hb.block _ hl0).trans hrb
  obtain ⟨q0, q1, q2, q3, q4, q5⟩ := six hrb1
  have hq := fun o => soft hrb1 o
  have hbw := hb0.trans (hb.mono hb0.size)
  clear hb HC
  go_wp2_with fail
  refine bodyPost_ret (v := .agg #[.int .i64 R.1.tm, .bool R.1.gone, .int .i64 R.1.doc.k, .int .i64 R.1.doc.n, .string R.1.doc.t, .slice p' R.2.length c']) (by simp [results, Tryz.results125, go_sem, *]) rfl ⟨⟨p', _, c', rfl⟩, ?_⟩
  (repeat (first | (with_reducible exact Below.refl _ _) | (with_reducible assumption) | (with_reducible apply below_drewN) | (with_reducible apply Below.drew) | ((with_reducible refine Below.setCell ?_ ?_ _); rotate_left; focus (first | (simp; done) | (simp; omega) | omega)) | ((with_reducible refine Below.alloc ?_ ?_ _); rotate_left; focus (first | (simp; done) | (simp; omega) | omega))))

theorem szVr_of {c : Col} (h : SzCol c) {x : Chn} (hx : x ∈ c.chs) {v : Ver} (hv : v ∈ x.vs) : v.doc.t.size ≤ 1048576 := (h.chs x hx).2 v hv
end Go.Proofs.YtkafanjfjplakaaGreatDoor.Co
