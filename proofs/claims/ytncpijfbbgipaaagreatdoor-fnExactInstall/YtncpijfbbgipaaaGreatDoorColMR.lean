/- Whether a collection is right, said plainly. Nothing of the program is used here but the texts on documents and definitions. -/
import Derived.Test.YtncpijfbbgipaaaGreatDoorDocBR
import Derived.Test.YtncpijfbbgipaaaGreatDoorColP
import Derived.Test.YtncpijfbbgipaaaGreatDoorColDR
namespace Go.Proofs.YtncpijfbbgipaaaGreatDoor.Co
open Go.RowKit Tr
set_option linter.unusedVariables false

/-- A collection. -/
structure Col where
  name : ByteArray
  chs : List Chn
  dfs : List Dfn
def versB (id : Int) : Int → List Ver → Bool
  | _, [] => true
  | last, v :: r => decide (last < v.tm) && (timeB v.tm && (stateB id v.gone v.doc && versB id v.tm r))
def chnB (c : Chn) : Bool := decide (1 ≤ c.vs.length ∧ c.vs.length ≤ 12) && versB c.id 0 c.vs
def chsB : Int → List Chn → Bool
  | _, [] => true
  | last, c :: r => decide (last < c.id) && (topB c.id && (chnB c && chsB c.id r))
def namedP (n : ByteArray) (d : Dfn) : Bool := d.name.toList == n.toList
def defsB : List Dfn → List Dfn → Bool
  | _, [] => true
  | pre, d :: r => defB d.name d.ps && (!(pre.any (namedP d.name)) && defsB (pre ++ [d]) r)
def dfsB (l : List Dfn) : Bool := decide (l.length ≤ 3) && defsB [] l
def collB (c : Col) : Bool := shortB c.name && (dfsB c.dfs && chsB (-1) c.chs)
/-- What the version, or the chain, ahead of a place has. -/
def lastV (l : List Ver) : Nat → Int
  | 0 => 0
  | k + 1 => match l[k]? with | some v => v.tm | none => 0
def lastC (l : List Chn) : Nat → Int
  | 0 => -1
  | k + 1 => match l[k]? with | some v => v.id | none => -1
theorem lastV_succ (l : List Ver) (k : Nat) (h : k < l.length) : lastV l (k + 1) = l[k].tm := by show (match l[k]? with | some v => v.tm | none => 0) = _; rw [List.getElem?_eq_getElem h]
theorem lastC_succ (l : List Chn) (k : Nat) (h : k < l.length) : lastC l (k + 1) = l[k].id := by show (match l[k]? with | some v => v.id | none => -1) = _; rw [List.getElem?_eq_getElem h]
theorem versB_step (id : Int) (l : List Ver) (k : Nat) (h : k < l.length) : versB id (lastV l k) (l.drop k) = (decide (lastV l k < l[k].tm) && (timeB l[k].tm && (stateB id l[k].gone l[k].doc && versB id (lastV l (k + 1)) (l.drop (k + 1))))) := by
  rw [List.drop_eq_getElem_cons h, versB, lastV_succ l k h]
theorem versB_end (id : Int) (l : List Ver) (k : Nat) (h : l.length ≤ k) : versB id (lastV l k) (l.drop k) = true := by
  rw [List.drop_eq_nil_of_le h]; rfl
theorem chsB_step (l : List Chn) (k : Nat) (h : k < l.length) : chsB (lastC l k) (l.drop k) = (decide (lastC l k < l[k].id) && (topB l[k].id && (chnB l[k] && chsB (lastC l (k + 1)) (l.drop (k + 1))))) := by
  rw [List.drop_eq_getElem_cons h, chsB, lastC_succ l k h]
theorem chsB_end (l : List Chn) (k : Nat) (h : l.length ≤ k) : chsB (lastC l k) (l.drop k) = true := by
  rw [List.drop_eq_nil_of_le h]; rfl
theorem chsB_len : ∀ (l : List Chn) (last : Int), -1 ≤ last → last ≤ 19 → chsB last l = true → (l.length : Int) ≤ 19 - last
  | [], last, h0, h1, _ => by simp; omega
  | c :: r, last, h0, h1, h => by
    rw [chsB] at h
    simp only [Bool.and_eq_true, decide_eq_true_eq, topB] at h
    obtain ⟨a1, a2, a3, a4⟩ := h
    have := chsB_len r c.id (by omega) a2.2 a4
    simp only [List.length_cons]
    omega
theorem chsB_long (l : List Chn) (h : 20 < l.length) : chsB (-1) l = false := by
  rw [Bool.eq_false_iff]; intro hh
  have := chsB_len l (-1) (by omega) (by omega) hh
  omega
theorem defsB_step (l : List Dfn) (k : Nat) (h : k < l.length) : defsB (l.take k) (l.drop k) = (defB l[k].name l[k].ps && (!((l.take k).any (namedP l[k].name)) && defsB (l.take (k + 1)) (l.drop (k + 1)))) := by
  rw [List.drop_eq_getElem_cons h, defsB, List.take_succ_eq_append_getElem h]
theorem defsB_end (l : List Dfn) (k : Nat) (h : l.length ≤ k) : defsB (l.take k) (l.drop k) = true := by
  rw [List.drop_eq_nil_of_le h]; rfl
theorem zeroB_true (v : Val) (h : zeroB v = true) : v = ⟨0, 0, em⟩ := by
  unfold zeroB at h
  simp only [Bool.and_eq_true, decide_eq_true_eq] at h
  obtain ⟨h0, h1, h2⟩ := h
  cases v
  simp only at h0 h1 h2
  rw [h0, h1, empty_of _ h2]

end Go.Proofs.YtncpijfbbgipaaaGreatDoor.Co

/- Whether a chain of versions is right: the program's answer. -/
namespace Go.Proofs.YtncpijfbbgipaaaGreatDoor.Co
open Go.RowKit Tr
set_option linter.unusedVariables false

/-- A box of two cells. -/
structure Box2 (w W : World) (a b : Value) : Prop where
  bel : Below w.heap.size w W
  lt : w.heap.size < W.heap.size
  c0 : W.cell? ⟨w.heap.size, 0, none⟩ = some a
  c1 : W.cell? ⟨w.heap.size, 1, none⟩ = some b
theorem Box2.start (w : World) (a b : Value) (T : TypeId) : Box2 w (w.alloc (.cells #[a, b] T)) a b :=
  ⟨(Below.refl _ _).alloc (Nat.le_refl _) _, by simp, by simp [go_sem], by simp [go_sem]⟩
theorem Box2.step {w W W' : World} {a b : Value} (h : Box2 w W a b) (hb : Below W.heap.size W W') : Box2 w W' a b :=
  ⟨h.bel.trans (hb.mono h.bel.size), Nat.lt_of_lt_of_le h.lt hb.size, (hb.cell h.lt).trans h.c0, (hb.cell h.lt).trans h.c1⟩
/-- A box of a version: five cells. -/
structure Box5 (w W : World) (v : Ver) : Prop where
  bel : Below w.heap.size w W
  lt : w.heap.size < W.heap.size
  c0 : W.cell? ⟨w.heap.size, 0, none⟩ = some (.int .i64 v.tm)
  c1 : W.cell? ⟨w.heap.size, 1, none⟩ = some (.bool v.gone)
  c2 : W.cell? ⟨w.heap.size, 2, none⟩ = some (.int .i64 v.doc.k)
  c3 : W.cell? ⟨w.heap.size, 3, none⟩ = some (.int .i64 v.doc.n)
  c4 : W.cell? ⟨w.heap.size, 4, none⟩ = some (.string v.doc.t)
theorem Box5.start (w : World) (v : Ver) (T : TypeId) : Box5 w (w.alloc (.cells #[.int .i64 v.tm, .bool v.gone, .int .i64 v.doc.k, .int .i64 v.doc.n, .string v.doc.t] T)) v :=
  ⟨(Below.refl _ _).alloc (Nat.le_refl _) _, by simp, by simp [go_sem], by simp [go_sem], by simp [go_sem], by simp [go_sem], by simp [go_sem]⟩
theorem Box5.step {w W W' : World} {v : Ver} (h : Box5 w W v) (hb : Below W.heap.size W W') : Box5 w W' v :=
  ⟨h.bel.trans (hb.mono h.bel.size), Nat.lt_of_lt_of_le h.lt hb.size, (hb.cell h.lt).trans h.c0, (hb.cell h.lt).trans h.c1, (hb.cell h.lt).trans h.c2, (hb.cell h.lt).trans h.c3, (hb.cell h.lt).trans h.c4⟩

set_option maxRecDepth 4000 in
set_option maxHeartbeats 2000000 in
theorem versionsOK_any (id : Int) (p : Option Addr) (cap : Nat) (l : List Ver) (w : World) (hin : InVr w p l) (hid : 0 ≤ id) (hl : l.length ≤ 1048576) (hs : ∀ v ∈ l, szVr v) :
    Calls Tryz.prog 82 #[.agg #[.int .i64 id, .slice p l.length cap]] w fun e w' => e = .returned (.bool (chnB ⟨id, l⟩)) ∧ Below w.heap.size w w' := by
  have X0 := Box2.start w (.int .i64 id) (.slice p l.length cap) 67
  have hbw0 := X0.bel
  have HI : Hid (InVr _ _ _) := hin
  have HS : Hid _ := hs
  clear hin hs
  obtain ⟨R, hR⟩ : ∃ R, R = chnB ⟨id, l⟩ := ⟨_, rfl⟩
  rw [← hR]
  unfold chnB at hR
  simp only at hR
  by_cases h12 : 1 ≤ l.length ∧ l.length ≤ 12
  · rw [decide_eq_true h12, Bool.true_and] at hR
    have HR : Hid (R = versB id 0 l) := hR
    have a1 : ¬ (l.length : Int) < 1 := by omega
    have a2 : ¬ (12 : Int) < (l.length : Int) := by omega
    clear hR h12
    go_enter Tryz.func82, Tryz.ntmps82
    go_wp2_with fail
    generalize w.alloc (.cells #[.int .i64 id, .slice p l.length cap] 67) = W0 at X0 hbw0 ⊢
    go_loopw [3, 19] (fun u i wr => ∃ k : Nat, k ≤ l.length ∧ i = .int .i64 k ∧ u = .int .i64 (lastV l k) ∧ R = versB id (lastV l k) (l.drop k) ∧ Below W0.heap.size W0 wr) (fun _ i _ => l.length - (intOf i).toNat)
    case atStart => exact ⟨0, Nat.zero_le _, rfl, rfl, HR.out, Below.refl _ _⟩
    case round =>
      obtain ⟨k, hk, rfl, rfl, hall, hbel⟩ := hrel
      have X := X0.step hbel
      clear hbw0
      by_cases hlt : k < l.length
      · rcases HI.out.step X.bel with h0 | ⟨b, off, rfl, hbl, hcell⟩
        · omega
        have hst := hall.trans (versB_step id l k hlt)
        obtain ⟨x0, x1, x2, x3, x4⟩ := hcell k hlt
        have hlt2 : (k : Int) < (l.length : Int) := by omega
        have hsz := HS.out l[k] (List.getElem_mem _)
        have hlv := lastV_succ l k hlt
        obtain ⟨v, hv⟩ : ∃ v, v = l[k] := ⟨_, rfl⟩
        rw [← hv] at x0 x1 x2 x3 x4 hst hsz hlv
        obtain ⟨q, hq⟩ : ∃ q, q = lastV l k := ⟨_, rfl⟩
        rw [← hq] at hst ⊢
        have hsz2 : v.doc.t.size ≤ 1048576 := hsz
        have HT : Hid (∀ W : World, Calls _ _ _ W _) := fun W => timeOK_any v.tm W
        have HC : Hid (∀ W : World, Calls _ _ _ W _) := fun W => stateOK_any id v.gone v.doc W hid hsz2
        have B0 := Box5.start wr v 69
        have hbB := X.bel.trans (B0.bel.mono X.bel.size)
        have c0 := (B0.bel.cell X.lt).trans X.c0
        clear hall hcell hq hv
        by_cases e1 : q < v.tm
        · have e1' : ¬ v.tm ≤ q := by omega
          rw [decide_eq_true e1, Bool.true_and] at hst
          cases e2 : timeB v.tm
          · rw [e2] at hst HT
            have HF : Hid (R = false) := hst
            clear hst e2 e1
            go_wp2_with fail
            refine (HT.out _).mono ?_
            rintro e w1 ⟨rfl, rfl⟩
            go_wp2_with fail
            go_ret
            exact ⟨ret_bool' HF.out.symm, hbB⟩
          · rw [e2, Bool.true_and] at hst
            rw [e2] at HT
            have hc := c0
            cases e3 : stateB id v.gone v.doc
            · rw [e3] at hst HC
              have HF : Hid (R = false) := hst
              clear hst e2 e1 e3
              go_wp2_with fail
              refine (HT.out _).mono ?_
              rintro e w1 ⟨rfl, rfl⟩
              go_wp2_with fail
              refine (HC.out _).mono ?_
              rintro e w2 ⟨rfl, hb⟩
              have hbw := hbB.trans (hb.mono hbB.size)
              clear hb
              go_wp2_with fail
              go_ret
              exact ⟨ret_bool' HF.out.symm, hbw⟩
            · rw [e3, Bool.true_and] at hst
              rw [e3] at HC
              have HF : Hid (R = _) := hst
              clear hst e2 e1 e3
              go_wp2_with fail
              refine (HT.out _).mono ?_
              rintro e w1 ⟨rfl, rfl⟩
              go_wp2_with fail
              refine (HC.out _).mono ?_
              rintro e w2 ⟨rfl, hb⟩
              have d0 := (B0.step hb).c0
              have hbw : Below W0.heap.size W0 w2 := hbel.trans ((B0.step hb).bel.mono hbel.size)
              clear hb
              go_wp2_with fail
              go_roundw
              case rel => exact ⟨k + 1, by omega, by go_num, by rw [hlv], HF.out, hbw⟩
              case measure => simp [intOf]; omega
        · have e1' : v.tm ≤ q := by omega
          rw [decide_eq_false e1, Bool.false_and] at hst
          have HF : Hid (R = false) := hst
          clear hst e1
          go_wp2_with fail
          go_ret
          exact ⟨ret_bool' HF.out.symm, hbB⟩
      · have hlt2 : ¬ (k : Int) < (l.length : Int) := by omega
        have hRt := hall.trans (versB_end id l k (by omega))
        have HF : Hid (R = true) := hRt
        have hbw := X.bel
        clear hRt hall
        go_wp2_with fail
        go_ret
        exact ⟨ret_bool' HF.out.symm, hbw⟩
  · rw [decide_eq_false h12, Bool.false_and] at hR
    subst hR
    by_cases h1 : l.length < 1
    · have a1 : (l.length : Int) < 1 := by omega
      clear h12 h1
      go_enter Tryz.func82, Tryz.ntmps82
      go_wp2_with fail
      go_ret
      exact ⟨rfl, hbw0⟩
    · have a1 : ¬ (l.length : Int) < 1 := by omega
      have a2 : (12 : Int) < (l.length : Int) := by omega
      clear h12 h1
      go_enter Tryz.func82, Tryz.ntmps82
      go_wp2_with fail
      go_ret
      exact ⟨rfl, hbw0⟩

end Go.Proofs.YtncpijfbbgipaaaGreatDoor.Co

/- Whether chains, definitions and a collection are right: the program's answers. -/
namespace Go.Proofs.YtncpijfbbgipaaaGreatDoor.Co
open Go.RowKit Tr
set_option linter.unusedVariables false

set_option maxRecDepth 4000 in
set_option maxHeartbeats 2000000 in
theorem chainsOK_any (p : Option Addr) (cap : Nat) (l : List Chn) (w : World) (hin : InCh w p l) (hl : l.length ≤ 1048576) (hs : ∀ v ∈ l, szCh v) :
    Calls Tryz.prog 51 #[.slice p l.length cap] w fun e w' => e = .returned (.bool (chsB (-1) l)) ∧ Below w.heap.size w w' := by
  have HI : Hid (InCh _ _ _) := hin
  have HS : Hid _ := hs
  clear hin hs
  obtain ⟨R, hR⟩ : ∃ R, R = chsB (-1) l := ⟨_, rfl⟩
  rw [← hR]
  have HR : Hid (R = chsB (-1) l) := hR
  clear hR
  go_enter Tryz.func51, Tryz.ntmps51
  go_wp2_with fail
  go_loopw [3, 8] (fun u i wr => ∃ k : Nat, k ≤ l.length ∧ i = .int .i64 k ∧ u = .int .i64 (lastC l k) ∧ R = chsB (lastC l k) (l.drop k) ∧ Below w.heap.size w wr) (fun _ i _ => l.length - (intOf i).toNat)
  case atStart => exact ⟨0, Nat.zero_le _, rfl, rfl, HR.out, Below.refl _ _⟩
  case round =>
    obtain ⟨k, hk, rfl, rfl, hall, hbel⟩ := hrel
    by_cases hlt : k < l.length
    · rcases HI.out.step hbel with h0 | ⟨b, off, rfl, hbl, hcell⟩
      · omega
      have hst := hall.trans (chsB_step l k hlt)
      obtain ⟨x0, pv, cv, x1, hT⟩ := hcell k hlt
      have hlt2 : (k : Int) < (l.length : Int) := by omega
      have hsz := HS.out l[k] (List.getElem_mem _)
      have hlv := lastC_succ l k hlt
      obtain ⟨v, hv⟩ : ∃ v, v = l[k] := ⟨_, rfl⟩
      rw [← hv] at x0 x1 hT hst hsz hlv
      obtain ⟨q, hq⟩ : ∃ q, q = lastC l k := ⟨_, rfl⟩
      rw [← hq] at hst ⊢
      have HT : Hid (∀ W : World, Calls _ _ _ W _) := fun W => topIdOK_any v.id W
      have B0 := Box2.start wr (.int .i64 v.id) (.slice pv v.vs.length cv) 67
      have hbB := hbel.trans (B0.bel.mono hbel.size)
      clear hall hcell hq hv
      by_cases e1 : q < v.id
      · have e1' : ¬ v.id ≤ q := by omega
        rw [decide_eq_true e1, Bool.true_and] at hst
        cases e2 : topB v.id
        · rw [e2] at hst HT
          have HF : Hid (R = false) := hst
          clear hst e2 e1
          go_wp2_with fail
          refine (HT.out _).mono ?_
          rintro e w1 ⟨rfl, rfl⟩
          go_wp2_with fail
          go_ret
          exact ⟨ret_bool' HF.out.symm, hbB⟩
        · have hid : 0 ≤ v.id := by unfold topB at e2; rw [decide_eq_true_eq] at e2; exact e2.1
          have HC : Hid (∀ W : World, Below wr.heap.size wr W → Calls _ _ _ W _) := fun W hW => versionsOK_any v.id pv cv v.vs W (hT.step hW) hid hsz.1 hsz.2
          rw [e2, Bool.true_and] at hst
          rw [e2] at HT
          have hcn : (⟨v.id, v.vs⟩ : Chn) = v := rfl
          rw [hcn] at HC
          cases e3 : chnB v
          · rw [e3] at hst HC
            have HF : Hid (R = false) := hst
            clear hst e2 e1 e3
            go_wp2_with fail
            refine (HT.out _).mono ?_
            rintro e w1 ⟨rfl, rfl⟩
            go_wp2_with fail
            refine (HC.out _ B0.bel).mono ?_
            rintro e w2 ⟨rfl, hb⟩
            have hbw := hbB.trans (hb.mono hbB.size)
            clear hb
            go_wp2_with fail
            go_ret
            exact ⟨ret_bool' HF.out.symm, hbw⟩
          · rw [e3, Bool.true_and] at hst
            rw [e3] at HC
            have HF : Hid (R = _) := hst
            clear hst e2 e1 e3
            go_wp2_with fail
            refine (HT.out _).mono ?_
            rintro e w1 ⟨rfl, rfl⟩
            go_wp2_with fail
            refine (HC.out _ B0.bel).mono ?_
            rintro e w2 ⟨rfl, hb⟩
            have d0 := (B0.step hb).c0
            have hbw : Below w.heap.size w w2 := hbel.trans ((B0.step hb).bel.mono hbel.size)
            clear hb
            go_wp2_with fail
            go_roundw
            case rel => exact ⟨k + 1, by omega, by go_num, by rw [hlv], HF.out, hbw⟩
            case measure => simp [intOf]; omega
      · have e1' : v.id ≤ q := by omega
        rw [decide_eq_false e1, Bool.false_and] at hst
        have HF : Hid (R = false) := hst
        clear hst e1
        go_wp2_with fail
        go_ret
        exact ⟨ret_bool' HF.out.symm, hbB⟩
    · have hlt2 : ¬ (k : Int) < (l.length : Int) := by omega
      have hRt := hall.trans (chsB_end l k (by omega))
      have HF : Hid (R = true) := hRt
      clear hRt hall
      go_wp2_with fail
      go_ret
      exact ⟨ret_bool' HF.out.symm, hbel⟩

/-- The first place where something holds, -1 without one. -/
def FirstAt {α : Type} (P : α → Bool) (l : List α) (r : Int) : Prop := (r = -1 ∧ ∀ u ∈ l, P u = false) ∨ ∃ (k : Nat) (h : k < l.length), r = k ∧ P l[k] = true ∧ ∀ u ∈ l.take k, P u = false
theorem FirstAt.ahead {l : List Dfn} {r : Int} {i : Nat} (hi : i < l.length) (h : FirstAt (namedP l[i].name) l r) : decide (r < (i : Int)) = (l.take i).any (namedP l[i].name) := by
  have hself : namedP l[i].name l[i] = true := by unfold namedP; simp
  rcases h with ⟨_, h⟩ | ⟨k, hk, rfl, h1, h2⟩
  · rw [h l[i] (List.getElem_mem _)] at hself; cases hself
  · have hki : k ≤ i := by
      rcases Nat.lt_or_ge i k with h | h
      · have := h2 l[i] (by rw [List.mem_take_iff_getElem]; exact ⟨i, by omega, rfl⟩)
        rw [this] at hself; cases hself
      · exact h
    by_cases e : k < i
    · rw [decide_eq_true (by omega)]
      symm
      rw [List.any_eq_true]
      exact ⟨l[k], by rw [List.mem_take_iff_getElem]; exact ⟨k, by omega, rfl⟩, h1⟩
    · obtain rfl : k = i := by omega
      rw [decide_eq_false (by omega)]
      symm
      rw [Bool.eq_false_iff]
      intro hh
      obtain ⟨u, hu, he⟩ := List.any_eq_true.mp hh
      rw [h2 u hu] at he; cases he
set_option maxRecDepth 4000 in
set_option maxHeartbeats 1000000 in
theorem namedD_any (s n : ByteArray) (v : Value) (b : Nat) (w : World) (hc : w.cell? ⟨b, 0, none⟩ = some (.string s)) (hb : b < w.heap.size) :
    Calls Tryz.prog 111 #[.agg #[.string n, v], .pointer (some ⟨b, 0, none⟩)] w fun e w' => e = .returned (.bool (n.toList == s.toList)) ∧ Below w.heap.size w w' := by
  go_enter Tryz.func111, Tryz.ntmps111
  go_wp2_with fail
  go_ret
  exact ⟨rfl, by (repeat (first | (with_reducible exact Below.refl _ _) | (with_reducible assumption) | (with_reducible apply below_drewN) | (with_reducible apply Below.drew) | ((with_reducible refine Below.setCell ?_ ?_ _); rotate_left; focus (first | (simp; done) | (simp; omega) | omega)) | ((with_reducible refine Below.alloc ?_ ?_ _); rotate_left; focus (first | (simp; done) | (simp; omega) | omega))))⟩
set_option maxRecDepth 4000 in
set_option maxHeartbeats 1000000 in
theorem idxNamed_any (s : ByteArray) (b : Nat) (q : Option Addr) (qc : Nat) (l : List Dfn) (w : World) (hc : w.cell? ⟨b, 0, none⟩ = some (.string s)) (hb : b < w.heap.size) (hr : RowDf w q l) (hl : l.length ≤ 1048576) :
    Calls Tryz.prog 110 #[.slice q l.length qc, .func (.func 111) #[] #[.pointer (some ⟨b, 0, none⟩)]] w fun e w' => (∃ i : Int, e = .returned (.int .i64 i) ∧ FirstAt (namedP s) l i) ∧ Below w.heap.size w w' := by
  have HR : Hid (RowDf _ _ _) := hr
  clear hr
  obtain ⟨P, hP0⟩ : ∃ P : Dfn → Bool, P = namedP s := ⟨_, rfl⟩
  rw [← hP0]
  have HP0 : Hid _ := hP0
  clear hP0
  go_enter Tryz.func110, Tryz.ntmps110
  go_wp2_with fail
  go_loopw [8] (fun i wr => ∃ k : Nat, k ≤ l.length ∧ i = .int .i64 k ∧ (∀ u ∈ l.take k, P u = false) ∧ Below w.heap.size w wr) (fun i _ => l.length - (intOf i).toNat)
  case atStart => exact ⟨0, Nat.zero_le _, rfl, fun u hu => by simp at hu, Below.refl _ _⟩
  case round =>
    obtain ⟨k, hk, rfl, hall, hbel⟩ := hrel
    have HA : Hid _ := hall
    clear hall
    by_cases hlt : k < l.length
    · rcases HR.out.next hbel with h0 | ⟨g, rfl, R⟩
      · subst h0; simp at hlt
      obtain ⟨x0, pv, cv, x1, _, _⟩ := R.cells k hlt
      have hlt2 : (k : Int) < (l.length : Int) := by omega
      have HK0 := namedD_any s l[k].name (.slice pv l[k].ps.length cv) b wr ((hbel.cell hb).trans hc) (Nat.lt_of_lt_of_le hb hbel.size)
      have hPk : P l[k] = (l[k].name.toList == s.toList) := by rw [HP0.out]; rfl
      rw [← hPk] at HK0
      cases hP : P l[k]
      · rw [hP] at HK0
        have HK : Hid (Calls _ _ _ _ _) := HK0
        have HPK : Hid _ := hP
        clear R hP HK0 hPk
        go_wp2_with fail
        refine HK.out.mono ?_
        rintro e w1 ⟨rfl, hb1⟩
        have hb2 := hbel.trans (hb1.mono hbel.size)
        clear hb1 HK
        go_wp2_with fail
        go_roundw
        case rel =>
          refine ⟨k + 1, by omega, by go_num, ?_, hb2⟩
          intro u hu
          rw [List.take_succ_eq_append_getElem hlt] at hu
          rcases List.mem_append.mp hu with h | h
          · exact HA.out u h
          · simp at h; subst h; exact HPK.out
        case measure => simp [intOf]; omega
      · rw [hP] at HK0
        have HK : Hid (Calls _ _ _ _ _) := HK0
        have HPK : Hid _ := hP
        clear R hP HK0 hPk
        go_wp2_with fail
        refine HK.out.mono ?_
        rintro e w1 ⟨rfl, hb1⟩
        have hb2 := hbel.trans (hb1.mono hbel.size)
        clear hb1 HK
        go_wp2_with fail
        go_ret
        exact ⟨⟨k, rfl, .inr ⟨k, hlt, rfl, HPK.out, HA.out⟩⟩, hb2⟩
    · have hlt2 : ¬ (k : Int) < (l.length : Int) := by omega
      go_wp2_with fail
      go_ret
      exact ⟨⟨-1, rfl, .inl ⟨rfl, fun u hu => HA.out u (by rw [List.take_of_length_le (by omega)]; exact hu)⟩⟩, hbel⟩
set_option maxRecDepth 4000 in
set_option maxHeartbeats 1000000 in
theorem defPlace_any (s : ByteArray) (q : Option Addr) (qc : Nat) (l : List Dfn) (w : World) (hr : RowDf w q l) (hl : l.length ≤ 1048576) :
    Calls Tryz.prog 81 #[.slice q l.length qc, .string s] w fun e w' => (∃ i : Int, e = .returned (.int .i64 i) ∧ FirstAt (namedP s) l i) ∧ Below w.heap.size w w' := by
  have hb0 : Below w.heap.size w (w.alloc (.cells #[.string s] 9)) := (Below.refl _ _).alloc (Nat.le_refl _) _
  have HC : Hid (Calls _ _ _ _ _) := idxNamed_any s w.heap.size q qc l (w.alloc (.cells #[.string s] 9)) (by simp [go_sem]) (by simp) (hr.next hb0) hl
  clear hr
  go_enter Tryz.func81, Tryz.ntmps81
  go_wp2_with fail
  refine HC.out.mono ?_
  rintro e w1 ⟨⟨i, rfl, hi⟩, hb⟩
  have hbw := hb0.trans (hb.mono hb0.size)
  have HF : Hid (FirstAt _ _ _) := hi
  clear hb HC hi
  go_wp2_with fail
  go_ret
  exact ⟨⟨i, rfl, HF.out⟩, hbw⟩
set_option maxRecDepth 4000 in
set_option maxHeartbeats 2000000 in
theorem defsOK_any (p : Option Addr) (cap : Nat) (l : List Dfn) (w : World) (hr : RowDf w p l) (hl : l.length ≤ 1048576) (hs : ∀ v ∈ l, szDf v) :
    Calls Tryz.prog 50 #[.slice p l.length cap] w fun e w' => e = .returned (.bool (dfsB l)) ∧ Below w.heap.size w w' := by
  have HR : Hid (RowDf _ _ _) := hr
  have HS : Hid _ := hs
  clear hr hs
  obtain ⟨R, hR⟩ : ∃ R, R = dfsB l := ⟨_, rfl⟩
  rw [← hR]
  unfold dfsB at hR
  by_cases h3 : l.length ≤ 3
  · rw [decide_eq_true h3, Bool.true_and] at hR
    have a3 : ¬ (3 : Int) < (l.length : Int) := by omega
    have HRR : Hid (R = defsB [] l) := hR
    clear hR h3
    go_enter Tryz.func50, Tryz.ntmps50
    go_wp2_with fail
    go_loopw [10] (fun i wr => ∃ k : Nat, k ≤ l.length ∧ i = .int .i64 k ∧ R = defsB (l.take k) (l.drop k) ∧ Below w.heap.size w wr) (fun i _ => l.length - (intOf i).toNat)
    case atStart => exact ⟨0, Nat.zero_le _, rfl, HRR.out, Below.refl _ _⟩
    case round =>
      obtain ⟨k, hk, rfl, hall, hbel⟩ := hrel
      by_cases hlt : k < l.length
      · have HRk := HR.out.next hbel
        obtain ⟨g, rfl, R1⟩ := HRk.resolve_left (fun h0 => by subst h0; simp at hlt)
        have hst := hall.trans (defsB_step l k hlt)
        obtain ⟨x0, pv, cv, x1, hcv, hT⟩ := R1.cells k hlt
        have hlt2 : (k : Int) < (l.length : Int) := by omega
        have hsz := HS.out l[k] (List.getElem_mem _)
        have hfirst : ∀ r : Int, FirstAt (namedP l[k].name) l r → decide (r < (k : Int)) = (l.take k).any (namedP l[k].name) := fun r h => h.ahead hlt
        obtain ⟨v, hv⟩ : ∃ v, v = l[k] := ⟨_, rfl⟩
        rw [← hv] at x0 x1 hT hst hsz hcv hfirst
        have HFI : Hid (∀ r : Int, FirstAt (namedP v.name) l r → decide (r < (k : Int)) = (l.take k).any (namedP v.name)) := hfirst
        have B0 := Box2.start wr (.string v.name) (.slice pv v.ps.length cv) 86
        have hbB := hbel.trans (B0.bel.mono hbel.size)
        have HC : Hid (∀ W : World, Below wr.heap.size wr W → Calls _ _ _ W _) := fun W hW => defOK_any v.name pv cv v.ps W (hT.next hW) hsz.1 hsz.2.1 hcv hsz.2.2
        have HP : Hid (∀ W : World, Below wr.heap.size wr W → Calls _ _ _ W _) := fun W hW => defPlace_any v.name (some ⟨g, 0, none⟩) cap l W (HRk.next hW) hl
        clear hall hv hfirst R1 HRk hT hsz
        cases e1 : defB v.name v.ps
        · rw [e1] at hst HC
          have HF : Hid (R = false) := hst
          clear hst e1
          go_wp2_with fail
          refine (HC.out _ B0.bel).mono ?_
          rintro e w1 ⟨rfl, hb⟩
          have hbw := hbB.trans (hb.mono hbB.size)
          clear hb
          go_wp2_with fail
          go_ret
          exact ⟨ret_bool' HF.out.symm, hbw⟩
        · rw [e1, Bool.true_and] at hst
          rw [e1] at HC
          have HN : Hid (R = _) := hst
          clear hst e1
          go_wp2_with fail
          refine (HC.out _ B0.bel).mono ?_
          rintro e w1 ⟨rfl, hb⟩
          have B1 := B0.step hb
          have d0 := B1.c0
          have hbw := hbB.trans (hb.mono hbB.size)
          clear hb
          go_wp2_with fail
          refine (HP.out _ B1.bel).mono ?_
          rintro e w2 ⟨⟨r, rfl, hr⟩, hb⟩
          have hdec := HFI.out r hr
          have hbw2 := hbw.trans (hb.mono hbw.size)
          clear hb hr
          by_cases e2 : r < (k : Int)
          · rw [decide_eq_true e2] at hdec
            have HF : Hid (R = false) := by rw [HN.out, ← hdec]; rfl
            clear hdec
            go_wp2_with fail
            go_ret
            exact ⟨ret_bool' HF.out.symm, hbw2⟩
          · rw [decide_eq_false e2] at hdec
            have HF : Hid (R = defsB (l.take (k + 1)) (l.drop (k + 1))) := by rw [HN.out, ← hdec]; rfl
            clear hdec
            go_wp2_with fail
            go_roundw
            case rel => exact ⟨k + 1, by omega, by go_num, HF.out, hbw2⟩
            case measure => simp [intOf]; omega
      · have hlt2 : ¬ (k : Int) < (l.length : Int) := by omega
        have hRt := hall.trans (defsB_end l k (by omega))
        have HF : Hid (R = true) := hRt
        clear hRt hall
        go_wp2_with fail
        go_ret
        exact ⟨ret_bool' HF.out.symm, hbel⟩
  · rw [decide_eq_false h3, Bool.false_and] at hR
    subst hR
    have a3 : (3 : Int) < (l.length : Int) := by omega
    go_enter Tryz.func50, Tryz.ntmps50
    go_wp2_with fail
    go_ret
    exact ⟨rfl, Below.refl _ _⟩
/-- What a collection's parts measure at most. -/
structure SzCol (c : Col) : Prop where
  name : c.name.size ≤ 1048576
  chl : c.chs.length ≤ 1048576
  chs : ∀ v ∈ c.chs, szCh v
  dfl : c.dfs.length ≤ 1048576
  dfs : ∀ v ∈ c.dfs, szDf v
set_option maxRecDepth 4000 in
set_option maxHeartbeats 2000000 in
theorem collOK_any (c : Col) (p q : Option Addr) (cp cq : Nat) (w : World) (hp : InCh w p c.chs) (hq : RowDf w q c.dfs) (hs : SzCol c) :
    Calls Tryz.prog 27 #[.agg #[.string c.name, .slice p c.chs.length cp, .slice q c.dfs.length cq]] w fun e w' => e = .returned (.bool (collB c)) ∧ Below w.heap.size w w' := by
  have X0 := Boxed.start w (.string c.name) (.slice p c.chs.length cp) (.slice q c.dfs.length cq) 35
  have hbw0 := X0.bel
  have HN : Hid (∀ W : World, Calls _ _ _ W _) := fun W => shortNameOK_any c.name W (by have := hs.name; unfold maxLen; omega)
  have HD : Hid (∀ W : World, Below w.heap.size w W → Calls _ _ _ W _) := fun W hW => defsOK_any q cq c.dfs W (hq.next hW) hs.dfl hs.dfs
  have HC : Hid (∀ W : World, Below w.heap.size w W → Calls _ _ _ W _) := fun W hW => chainsOK_any p cp c.chs W (hp.step hW) hs.chl hs.chs
  obtain ⟨R, hR⟩ : ∃ R, R = collB c := ⟨_, rfl⟩
  rw [← hR]
  unfold collB at hR
  clear hp hq hs
  cases e1 : shortB c.name
  · rw [e1] at HN hR
    rw [Bool.false_and] at hR
    subst hR
    clear e1 HD HC
    go_enter Tryz.func27, Tryz.ntmps27
    go_wp2_with fail
    refine (HN.out _).mono ?_
    rintro e w1 ⟨rfl, rfl⟩
    go_wp2_with fail
    go_ret
    exact ⟨rfl, hbw0⟩
  · rw [e1] at HN hR
    rw [Bool.true_and] at hR
    cases e2 : dfsB c.dfs
    · rw [e2] at HD hR
      rw [Bool.false_and] at hR
      subst hR
      clear e1 e2 HC
      go_enter Tryz.func27, Tryz.ntmps27
      go_wp2_with fail
      refine (HN.out _).mono ?_
      rintro e w1 ⟨rfl, rfl⟩
      go_wp2_with fail
      refine (HD.out _ X0.bel).mono ?_
      rintro e w2 ⟨rfl, hb⟩
      have hbw := (X0.step hb).bel
      clear hb
      go_wp2_with fail
      go_ret
      exact ⟨rfl, hbw⟩
    · rw [e2] at HD hR
      rw [Bool.true_and] at hR
      rw [← hR] at HC
      clear e1 e2 hR
      go_enter Tryz.func27, Tryz.ntmps27
      go_wp2_with fail
      refine (HN.out _).mono ?_
      rintro e w1 ⟨rfl, rfl⟩
      go_wp2_with fail
      refine (HD.out _ X0.bel).mono ?_
      rintro e w2 ⟨rfl, hb⟩
      have X2 := X0.step hb
      have c1 := X2.c1
      clear hb
      go_wp2_with fail
      refine (HC.out _ X2.bel).mono ?_
      rintro e w3 ⟨rfl, hb⟩
      have hbw := (X2.step hb).bel
      clear hb
      go_wp2_with fail
      go_ret
      exact ⟨rfl, hbw⟩

end Go.Proofs.YtncpijfbbgipaaaGreatDoor.Co

/- Whether a collection is right: the specification's answer. -/
namespace Go.Proofs.YtncpijfbbgipaaaGreatDoor.Co
open Go.RowKit Tr
set_option linter.unusedVariables false

theorem in_any (n a b : Int) (R : Bool) (h : decide (a ≤ n ∧ n ≤ b) = R) (w : World) : Calls Tryz.prog 21 #[.int .i64 n, .int .i64 a, .int .i64 b] w fun e w' => e = .returned (.bool R) ∧ Below w.heap.size w w' :=
  (l01In_any n a b w).mono fun e w' ⟨h1, h2⟩ => ⟨by rw [h1, h], by rw [h2]; exact Below.refl _ _⟩
theorem named_any (l : List Dfn) (k : Nat) (hk : k < l.length) (q : Nat) (hq : q < k) (h : namedP l[k].name (l[q]'(by omega)) = true) : (l.take k).any (namedP l[k].name) = true :=
  List.any_eq_true.mpr ⟨l[q]'(by omega), by rw [List.mem_take_iff_getElem]; exact ⟨q, by omega, rfl⟩, h⟩
theorem named_none (l : List Dfn) (k : Nat) (hk : k < l.length) (h : ∀ u ∈ l.take k, namedP l[k].name u = false) : (l.take k).any (namedP l[k].name) = false := by
  rw [Bool.eq_false_iff]; intro hh
  obtain ⟨u, hu, he⟩ := List.any_eq_true.mp hh
  rw [h u hu] at he; cases he
theorem take_nextD (P : Dfn → Bool) (l : List Dfn) (q : Nat) (hq : q < l.length) (h : ∀ u ∈ l.take q, P u = false) (h2 : P l[q] = false) : ∀ u ∈ l.take (q + 1), P u = false := by
  intro u hu
  rw [List.take_succ_eq_append_getElem hq] at hu
  rcases List.mem_append.mp hu with h' | h'
  · exact h u h'
  · simp at h'; subst h'; exact h2

set_option maxRecDepth 4000 in
set_option maxHeartbeats 4000000 in
theorem specColl_any (c : Col) (p q : Option Addr) (cp cq : Nat) (w : World) (hp : InCh w p c.chs) (hq : RowDf w q c.dfs) (hs : SzCol c) :
    Calls Tryz.prog 19 #[.agg #[.string c.name, .slice p c.chs.length cp, .slice q c.dfs.length cq]] w fun e w' => e = .returned (.bool (collB c)) ∧ Below w.heap.size w w' := by
  have X0 := Boxed.start w (.string c.name) (.slice p c.chs.length cp) (.slice q c.dfs.length cq) 35
  have hbw0 := X0.bel
  have HN : Hid (∀ W : World, Calls _ _ _ W _) := fun W => l01Name_any c.name W (by have := hs.name; unfold maxLen; omega)
  have HP : Hid (InCh _ _ _) := hp
  have HQ : Hid (RowDf _ _ _) := hq
  have HS : Hid (SzCol c) := hs
  obtain ⟨R, hR⟩ : ∃ R, R = collB c := ⟨_, rfl⟩
  rw [← hR]
  unfold collB dfsB at hR
  have hcl := hs.chl
  have hdl := hs.dfl
  clear hp hq hs
  cases e1 : shortB c.name
  · rw [e1] at HN hR
    rw [Bool.false_and] at hR
    subst hR
    clear e1
    go_enter Tryz.func19, Tryz.ntmps19
    go_wp2_with fail
    refine (HN.out _).mono ?_
    rintro e w1 ⟨rfl, rfl⟩
    go_wp2_with fail
    go_ret
    exact ⟨rfl, hbw0⟩
  rw [e1] at HN hR
  rw [Bool.true_and] at hR
  clear e1
  by_cases e2 : 20 < c.chs.length
  · rw [chsB_long c.chs e2, Bool.and_false] at hR
    subst hR
    have e2' : (20 : Int) < (c.chs.length : Int) := by omega
    clear e2
    go_enter Tryz.func19, Tryz.ntmps19
    go_wp2_with fail
    refine (HN.out _).mono ?_
    rintro e w1 ⟨rfl, rfl⟩
    go_wp2_with fail
    go_ret
    exact ⟨rfl, hbw0⟩
  have e2' : ¬ (20 : Int) < (c.chs.length : Int) := by omega
  clear e2
  by_cases e3 : c.dfs.length ≤ 3
  case neg =>
    rw [decide_eq_false e3, Bool.false_and, Bool.false_and] at hR
    subst hR
    have e3' : (3 : Int) < (c.dfs.length : Int) := by omega
    clear e3
    go_enter Tryz.func19, Tryz.ntmps19
    go_wp2_with fail
    refine (HN.out _).mono ?_
    rintro e w1 ⟨rfl, rfl⟩
    go_wp2_with fail
    go_ret
    exact ⟨rfl, hbw0⟩
  have e3' : ¬ (3 : Int) < (c.dfs.length : Int) := by omega
  rw [decide_eq_true e3, Bool.true_and] at hR
  clear e3
  obtain ⟨C, hC⟩ : ∃ C, C = chsB (-1) c.chs := ⟨_, rfl⟩
  rw [← hC] at hR
  have HC : Hid (C = chsB (-1) c.chs) := hC
  have HR : Hid (R = (defsB [] c.dfs && C)) := hR
  clear hC hR hbw0
  obtain ⟨dfs, hdfs⟩ : ∃ d, d = c.dfs := ⟨_, rfl⟩
  obtain ⟨chs, hchs⟩ : ∃ d, d = c.chs := ⟨_, rfl⟩
  have HSD : Hid (∀ v ∈ dfs, szDf v) := by rw [hdfs]; exact HS.out.dfs
  have HSC : Hid (∀ v ∈ chs, szCh v) := by rw [hchs]; exact HS.out.chs
  rw [← hdfs] at X0 HQ HR hdl e3' ⊢
  rw [← hchs] at X0 HP HC hcl e2' ⊢
  clear HS hdfs hchs
  go_enter Tryz.func19, Tryz.ntmps19
  go_wp2_with fail
  refine (HN.out _).mono ?_
  rintro e w1 ⟨rfl, rfl⟩
  go_wp2_with fail
  generalize w.alloc (.cells #[.string c.name, .slice p chs.length cp, .slice q dfs.length cq] 35) = W0 at X0 ⊢
  clear HN e2' e3'
  go_loopw [3] (fun i wr => ∃ k : Nat, k ≤ dfs.length ∧ i = .int .i64 k ∧ R = (defsB (dfs.take k) (dfs.drop k) && C) ∧ Below W0.heap.size W0 wr) (fun i _ => dfs.length - (intOf i).toNat)
  case atStart => exact ⟨0, Nat.zero_le _, rfl, HR.out, Below.refl _ _⟩
  case round =>
    obtain ⟨k, hk, rfl, hall, hbel⟩ := hrel
    have X := X0.step hbel
    have c2 := X.c2
    clear HR
    by_cases hlt : k < dfs.length
    · obtain ⟨g, rfl, R1⟩ := (HQ.out.next X.bel).resolve_left (fun h0 => by subst h0; simp at hlt)
      have hst := hall.trans (congrArg (· && C) (defsB_step dfs k hlt))
      obtain ⟨x0, pv, cv, x1, hcv, hT⟩ := R1.cells k hlt
      have hlt2 : (k : Int) < (dfs.length : Int) := by omega
      have hsz := HSD.out dfs[k] (List.getElem_mem _)
      have HR1 : Hid (ReadDf _ _ _) := R1
      have hgl := R1.lt
      have hany := named_any dfs k hlt
      have hnone := named_none dfs k hlt
      have hxk : ∀ W : World, ReadDf W g dfs → W.cell? ⟨g, k * 2, none⟩ = some (.string dfs[k].name) := fun W h => (h.cells k hlt).1
      obtain ⟨v, hv⟩ : ∃ v, v = dfs[k] := ⟨_, rfl⟩
      rw [← hv] at x0 x1 hcv hT hsz hst hany hnone hxk
      have HAN : Hid (∀ (q : Nat) (hq : q < k), namedP v.name (dfs[q]'(by omega)) = true → (dfs.take k).any (namedP v.name) = true) := hany
      have HNN : Hid ((∀ u ∈ dfs.take k, namedP v.name u = false) → (dfs.take k).any (namedP v.name) = false) := hnone
      have HXK : Hid (∀ W : World, ReadDf W g dfs → W.cell? ⟨g, k * 2, none⟩ = some (.string v.name)) := hxk
      have HD : Hid (∀ W : World, Below wr.heap.size wr W → Calls _ _ _ W _) := fun W hW => specDef_any v.name pv cv v.ps W (hT.next hW) hsz.1 hsz.2.1 hsz.2.2
      clear hall hT hsz R1 hv hany hnone hxk
      cases e1 : defB v.name v.ps
      · rw [e1] at hst HD
        have HF : Hid (R = false) := hst
        clear hst e1
        go_wp2_with fail
        refine (HD.out _ (Below.refl _ _)).mono ?_
        rintro e w1 ⟨rfl, hb⟩
        have hbw := (X.step hb).bel
        clear hb
        go_wp2_with fail
        go_ret
        exact ⟨ret_bool' HF.out.symm, hbw⟩
      · rw [e1, Bool.true_and] at hst
        rw [e1] at HD
        have HN : Hid (R = _) := hst
        clear hst e1
        go_wp2_with fail
        refine (HD.out _ (Below.refl _ _)).mono ?_
        rintro e w1 ⟨rfl, hb⟩
        have X1 := X.step hb
        have R2 := HR1.out.next hb
        have hb1 := hbel.trans (hb.mono hbel.size)
        have HR2 : Hid (ReadDf _ _ _) := R2
        clear hb HR1 X c2 x0 x1 hgl R2 HD
        go_wp2_with fail
        go_loopw [4] (fun i wq => ∃ j : Nat, j ≤ k ∧ i = .int .i64 j ∧ (∀ u ∈ dfs.take j, namedP v.name u = false) ∧ Below w1.heap.size w1 wq) (fun i _ => k - (intOf i).toNat)
        case atStart => exact ⟨0, Nat.zero_le _, rfl, fun u hu => by simp at hu, Below.refl _ _⟩
        case round =>
          obtain ⟨j, hj, rfl, hno, hbq⟩ := hrel
          have HNO : Hid _ := hno
          have Y := X1.step hbq
          have c2 := Y.c2
          clear hno
          have R3 := HR2.out.next hbq
          by_cases hjk : j < k
          · have hjk2 : (j : Int) < (k : Int) := by omega
            have hjl : j < dfs.length := by omega
            have hjl2 : (j : Int) < (dfs.length : Int) := by omega
            have x0 := (R3.cells j hjl).1
            have x1 := HXK.out _ R3
            have hgl := R3.lt
            have hbw := Y.bel
            have hnm : namedP v.name dfs[j] = (dfs[j].name.toList == v.name.toList) := rfl
            cases e2 : namedP v.name dfs[j]
            · have HE : Hid (namedP v.name dfs[j] = false) := e2
              rw [e2] at hnm
              obtain ⟨na, hna⟩ : ∃ na, na = dfs[j].name := ⟨_, rfl⟩
              rw [← hna] at hnm x0
              have e3 := hnm.symm
              clear e2 hnm hna R3
              go_wp2_with fail
              go_quiet (fail)
              go_wp2_with fail
              go_roundw
              case rel => exact ⟨j + 1, by omega, by go_num, take_nextD _ dfs j hjl HNO.out HE.out, below_drewN hbq _⟩
              case measure => simp [intOf]; omega
            · have HF : Hid (R = false) := by rw [HN.out, HAN.out j hjk e2]; rfl
              rw [e2] at hnm
              obtain ⟨na, hna⟩ : ∃ na, na = dfs[j].name := ⟨_, rfl⟩
              rw [← hna] at hnm x0
              have e3 := hnm.symm
              clear e2 hnm hna R3
              go_wp2_with fail
              go_quiet (fail)
              go_wp2_with fail
              go_ret
              exact ⟨ret_bool' HF.out.symm, below_drewN hbw _⟩
          · have hjk2 : ¬ (j : Int) < (k : Int) := by omega
            obtain rfl : j = k := by omega
            have HF : Hid (R = (defsB (dfs.take (j + 1)) (dfs.drop (j + 1)) && C)) := by rw [HN.out, HNN.out HNO.out]; rfl
            have hbw := hb1.trans (hbq.mono hb1.size)
            clear R3
            go_wp2_with fail
            go_roundw
            case rel => exact ⟨j + 1, by omega, by go_num, HF.out, hbw⟩
            case measure => simp [intOf]; omega
    · have hlt2 : ¬ (k : Int) < (dfs.length : Int) := by omega
      have HR3 : Hid (R = chsB (-1) chs) := hall.trans ((congrArg (· && C) (defsB_end dfs k (by omega))).trans ((Bool.true_and C).trans HC.out))
      obtain ⟨W1, hW1⟩ : ∃ W1, W1 = wr := ⟨_, rfl⟩
      rw [← hW1] at X c2 ⊢
      clear hall hbel HC HQ HSD hW1
      go_wp2_with fail
      clear c2
      go_loopw [5] (fun i wq => ∃ k : Nat, k ≤ chs.length ∧ i = .int .i64 k ∧ R = chsB (lastC chs k) (chs.drop k) ∧ Below W1.heap.size W1 wq) (fun i _ => chs.length - (intOf i).toNat)
      case atStart => exact ⟨0, Nat.zero_le _, rfl, HR3.out, Below.refl _ _⟩
      case round =>
        obtain ⟨k, hk, rfl, hall, hbel⟩ := hrel
        have X2 := X.step hbel
        have c1 := X2.c1
        clear HR3
        by_cases hlt : k < chs.length
        · rcases HP.out.step X2.bel with h0 | ⟨b, off, rfl, hbl, hcell⟩
          · omega
          have hst := hall.trans (chsB_step chs k hlt)
          obtain ⟨x0, pv, cv, x1, hT⟩ := hcell k hlt
          have hlt2 : (k : Int) < (chs.length : Int) := by omega
          have hsz := HSC.out chs[k] (List.getElem_mem _)
          have hlast : k = 0 ∨ ∃ m, k = m + 1 ∧ wr.cell? ⟨b, off + m * 2, none⟩ = some (.int .i64 (lastC chs k)) := by
            cases k with
            | zero => exact .inl rfl
            | succ m => exact .inr ⟨m, rfl, by rw [lastC_succ chs m (by omega)]; exact (hcell m (by omega)).1⟩
          obtain ⟨v, hv⟩ : ∃ v, v = chs[k] := ⟨_, rfl⟩
          rw [← hv] at x0 x1 hT hst hsz
          obtain ⟨z, hz⟩ : ∃ z, z = lastC chs k := ⟨_, rfl⟩
          rw [← hz] at hst hlast
          have hz0 : k = 0 → z = -1 := fun e => by rw [hz, e]; rfl
          obtain ⟨N, hN⟩ : ∃ N, N = chsB (lastC chs (k + 1)) (chs.drop (k + 1)) := ⟨_, rfl⟩
          rw [← hN] at hst
          have HNX : Hid (N = chsB (lastC chs (k + 1)) (chs.drop (k + 1))) := hN
          have HV : Hid (InVr _ _ _) := hT
          have HSV : Hid (∀ x ∈ v.vs, szVr x) := hsz.2
          have hvl := hsz.1
          have B0 := Box2.start wr (.int .i64 v.id) (.slice pv v.vs.length cv) 67
          clear hall hcell hz hv hN hT hsz
          go_wp2_with fail
          clear x0 x1
          have X3 := X2.step B0.bel
          have hbl3 : b < (wr.alloc (.cells #[.int .i64 v.id, .slice pv v.vs.length cv] 67)).heap.size := Nat.lt_of_lt_of_le hbl B0.bel.size
          have hlast3 : k = 0 ∨ ∃ m, k = m + 1 ∧ (wr.alloc (.cells #[.int .i64 v.id, .slice pv v.vs.length cv] 67)).cell? ⟨b, off + m * 2, none⟩ = some (.int .i64 z) := by
            rcases hlast with h | ⟨m, h1, h2⟩
            · exact .inl h
            · exact .inr ⟨m, h1, (B0.bel.cell hbl).trans h2⟩
          have hbw3 : Below W1.heap.size W1 (wr.alloc (.cells #[.int .i64 v.id, .slice pv v.vs.length cv] 67)) := hbel.trans (B0.bel.mono hbel.size)
          have HV3 : Hid (InVr _ _ _) := HV.out.step B0.bel
          have p0 := B0.c0
          have p1 := B0.c1
          have pl := B0.lt
          generalize wr.alloc (.cells #[.int .i64 v.id, .slice pv v.vs.length cv] 67) = W3 at X3 hbl3 hlast3 hbw3 HV3 p0 p1 pl ⊢
          obtain ⟨pb, hpb⟩ : ∃ pb, pb = wr.heap.size := ⟨_, rfl⟩
          rw [← hpb] at p0 p1 pl ⊢
          clear hlast hbl B0 X2 c1 HV hbel hpb
          have hnu : Nonempty (Under W3) := ⟨⟨W3, Below.refl _ _⟩⟩
          have r1 : ∀ u : Under W3, u.x.cell? ⟨w.heap.size, 1, none⟩ = some (.slice (some ⟨b, off, none⟩) chs.length cp) := fun u => (u.h.cell X3.lt).trans X3.c1
          have s0 : ∀ u : Under W3, u.x.cell? ⟨pb, 0, none⟩ = some (.int .i64 v.id) := fun u => (u.h.cell pl).trans p0
          have s1 : ∀ u : Under W3, u.x.cell? ⟨pb, 1, none⟩ = some (.slice pv v.vs.length cv) := fun u => (u.h.cell pl).trans p1
          have HI : Hid (∀ W : World, Calls _ _ _ W _) := fun W => in_any v.id 0 19 (topB v.id) rfl W
          have HI2 : Hid (∀ W : World, Calls _ _ _ W _) := fun W => in_any (v.vs.length : Int) 1 12 (decide (1 ≤ v.vs.length ∧ v.vs.length ≤ 12)) (decide_eq_decide.2 ⟨fun h => by omega, fun h => by omega⟩) W
          unfold chnB at hst
          have hok : ∀ P : Prop, P → P := fun _ h => h
          cases hA : topB v.id
          · rw [hA] at HI
            have HF : Hid (R = false) := by rw [hst, hA]; cases decide (z < v.id) <;> rfl
            clear hst hA hlast3 HI2
            refine wp_region_under (by kernel_rfl) (by kernel_rfl) ?_
            repeat (go_big_quiet_step ((go_at_call 21; exact calls_under _ (HI.out _))))
            refine wpQuiet_nil ?_
            rintro _ ⟨u, rfl⟩
            have hbw := (X3.step u.h).bel
            go_wp2_with fail
            go_ret
            exact ⟨ret_bool' HF.out.symm, hbw⟩
          have hid : 0 ≤ v.id := by unfold topB at hA; rw [decide_eq_true_eq] at hA; exact hA.1
          rw [hA] at HI hst
          rw [Bool.true_and] at hst
          clear hA hok
          have hz1 : k = 0 → z < v.id := fun e => by have := hz0 e; omega
          clear hz0
          by_cases hzi : z < v.id
          case neg =>
            rw [decide_eq_false hzi, Bool.false_and] at hst
            have HF : Hid (R = false) := hst
            rcases hlast3 with hk0 | ⟨m, hkm, hcm⟩
            · exact absurd (hz1 hk0) hzi
            have hkn : decide ((0 : Int) < (k : Int)) = true := decide_eq_true (by omega)
            have hkn2 : decide (0 < k) = true := decide_eq_true (by omega)
            have hks : (k : Int) - 1 = (m : Int) := by omega
            have hml : (m : Int) < (chs.length : Int) := by omega
            have hzi' : decide (v.id ≤ z) = true := decide_eq_true (by omega)
            have r0 : ∀ u : Under W3, u.x.cell? ⟨b, off + m * 2, none⟩ = some (.int .i64 z) := fun u => (u.h.cell hbl3).trans hcm
            clear hst hzi hkm hcm hz1 HI2
            refine wp_region_under (by kernel_rfl) (by kernel_rfl) ?_
            repeat (go_big_quiet_step ((go_at_call 21; exact calls_under _ (HI.out _))))
            refine wpQuiet_nil ?_
            rintro _ ⟨u, rfl⟩
            have hbw := (X3.step u.h).bel
            go_wp2_with fail
            go_ret
            exact ⟨ret_bool' HF.out.symm, hbw⟩
          have hzi' : decide (v.id ≤ z) = false := decide_eq_false (by omega)
          rw [decide_eq_true hzi, Bool.true_and] at hst
          clear hzi hz1
          have hsplit : (decide ((0 : Int) < (k : Int)) = false ∧ decide (0 < k) = false) ∨ ∃ m : Nat, (decide ((0 : Int) < (k : Int)) = true ∧ decide (0 < k) = true) ∧ (k : Int) - 1 = (m : Int) ∧ (m : Int) < (chs.length : Int) ∧ ∀ u : Under W3, u.x.cell? ⟨b, off + m * 2, none⟩ = some (.int .i64 z) := by
            rcases hlast3 with hk0 | ⟨m, hkm, hcm⟩
            · exact .inl ⟨decide_eq_false (by omega), decide_eq_false (by omega)⟩
            · exact .inr ⟨m, ⟨decide_eq_true (by omega), decide_eq_true (by omega)⟩, by omega, by omega, fun u => (u.h.cell hbl3).trans hcm⟩
          clear hlast3
          cases hD : decide (1 ≤ v.vs.length ∧ v.vs.length ≤ 12)
          · rw [hD] at HI2 hst
            have HF : Hid (R = false) := hst
            clear hst hD
            rcases hsplit with ⟨hkn, hkn2⟩ | ⟨m, ⟨hkn, hkn2⟩, hks, hml, r0⟩
            all_goals
              refine wp_region_under (by kernel_rfl) (by kernel_rfl) ?_
              repeat (go_big_quiet_step ((go_at_call 21; first | with_reducible exact calls_under _ (HI.out _) | with_reducible exact calls_under _ (HI2.out _))))
              refine wpQuiet_nil ?_
              rintro _ ⟨u, rfl⟩
              have hbw := (X3.step u.h).bel
              go_wp2_with fail
              go_ret
              exact ⟨ret_bool' HF.out.symm, hbw⟩
          rw [hD] at HI2 hst
          have HV0 : Hid (R = (versB v.id (lastV v.vs 0) (v.vs.drop 0) && N)) := hst
          clear hst hD
          rcases hsplit with ⟨hkn, hkn2⟩ | ⟨m, ⟨hkn, hkn2⟩, hks, hml, r0⟩
          all_goals
            refine wp_region_under (by kernel_rfl) (by kernel_rfl) ?_
            repeat (go_big_quiet_step ((go_at_call 21; first | with_reducible exact calls_under _ (HI.out _) | with_reducible exact calls_under _ (HI2.out _))))
            refine wpQuiet_nil ?_
            rintro _ ⟨u, rfl⟩
            clear r1 s0 s1 hnu
            have X4 := X3.step u.h
            have q0 := (u.h.cell pl).trans p0
            have q1 := (u.h.cell pl).trans p1
            have ql := Nat.lt_of_lt_of_le pl u.h.size
            have HV4 : Hid (InVr _ _ _) := HV3.out.step u.h
            have hbw4 := hbw3.trans (u.h.mono hbw3.size)
            generalize u.x = W4 at X4 q0 q1 ql HV4 hbw4 ⊢
            clear X3 p0 p1 pl HV3 hbw3 u
            go_wp2_with fail
            go_loopw [7] (fun i wq => ∃ j : Nat, j ≤ v.vs.length ∧ i = .int .i64 j ∧ R = (versB v.id (lastV v.vs j) (v.vs.drop j) && N) ∧ Below W4.heap.size W4 wq) (fun i _ => v.vs.length - (intOf i).toNat)
            case atStart => exact ⟨0, Nat.zero_le _, rfl, HV0.out, Below.refl _ _⟩
            case round =>
              obtain ⟨j, hj, rfl, hall, hbel⟩ := hrel
              clear HV0
              have X5 := X4.step hbel
              have t0 := (hbel.cell ql).trans q0
              have t1 := (hbel.cell ql).trans q1
              have tl := Nat.lt_of_lt_of_le ql hbel.size
              by_cases hjl : j < v.vs.length
              · rcases HV4.out.step hbel with h0 | ⟨b5, off5, rfl, hbl5, hcell⟩
                · omega
                have hst := hall.trans (congrArg (· && N) (versB_step v.id v.vs j hjl))
                obtain ⟨x0, x1, x2, x3, x4⟩ := hcell j hjl
                have hjl2 : (j : Int) < (v.vs.length : Int) := by omega
                have hsz : szVr v.vs[j] := HSV.out v.vs[j] (List.getElem_mem _)
                have hlast : (j = 0 ∧ lastV v.vs j = 0) ∨ ∃ m, j = m + 1 ∧ wr.cell? ⟨b5, off5 + m * 5, none⟩ = some (.int .i64 (lastV v.vs j)) := by
                  cases j with
                  | zero => exact .inl ⟨rfl, rfl⟩
                  | succ m => exact .inr ⟨m, rfl, by rw [lastV_succ v.vs m (by omega)]; exact (hcell m (by omega)).1⟩
                obtain ⟨y, hy⟩ : ∃ y, y = v.vs[j] := ⟨_, rfl⟩
                rw [← hy] at x0 x1 x2 x3 x4 hst hsz
                obtain ⟨z5, hz5⟩ : ∃ z, z = lastV v.vs j := ⟨_, rfl⟩
                rw [← hz5] at hst hlast
                obtain ⟨M, hM⟩ : ∃ M, M = versB v.id (lastV v.vs (j + 1)) (v.vs.drop (j + 1)) := ⟨_, rfl⟩
                rw [← hM] at hst
                have HM : Hid (M = _) := hM
                have hysz : y.doc.t.size ≤ 1048576 := hsz
                have HL : Hid (∀ W : World, Calls _ _ _ W _) := fun W => l08Doc_any v.id y.gone y.doc W hysz
                have HI : Hid (∀ W : World, Calls _ _ _ W _) := fun W => in_any y.tm 1 10000 (timeB y.tm) rfl W
                have B5 := Box5.start wr y 69
                clear hall hcell hz5 hy hM hsz
                go_wp2_with fail
                clear x0 x1 x2 x3 x4
                have X6 := X5.step B5.bel
                have hbl6 : b5 < (wr.alloc (.cells #[.int .i64 y.tm, .bool y.gone, .int .i64 y.doc.k, .int .i64 y.doc.n, .string y.doc.t] 69)).heap.size := Nat.lt_of_lt_of_le hbl5 B5.bel.size
                have hlast6 : (j = 0 ∧ z5 = 0) ∨ ∃ m, j = m + 1 ∧ (wr.alloc (.cells #[.int .i64 y.tm, .bool y.gone, .int .i64 y.doc.k, .int .i64 y.doc.n, .string y.doc.t] 69)).cell? ⟨b5, off5 + m * 5, none⟩ = some (.int .i64 z5) := by
                  rcases hlast with h | ⟨m, h1, h2⟩
                  · exact .inl h
                  · exact .inr ⟨m, h1, (B5.bel.cell hbl5).trans h2⟩
                have t60 := (B5.bel.cell tl).trans t0
                have t61 := (B5.bel.cell tl).trans t1
                have tl6 := Nat.lt_of_lt_of_le tl B5.bel.size
                have hb6 := hbel.trans (B5.bel.mono hbel.size)
                have yl := B5.lt
                have y0 := B5.c0
                have y1 := B5.c1
                have y2 := B5.c2
                have y3 := B5.c3
                have y4 := B5.c4
                generalize wr.alloc (.cells #[.int .i64 y.tm, .bool y.gone, .int .i64 y.doc.k, .int .i64 y.doc.n, .string y.doc.t] 69) = W6 at X6 hbl6 hlast6 t60 t61 tl6 hb6 yl y0 y1 y2 y3 y4 ⊢
                obtain ⟨yb, hyb⟩ : ∃ yb, yb = wr.heap.size := ⟨_, rfl⟩
                rw [← hyb] at yl y0 y1 y2 y3 y4 ⊢
                clear hlast hbl5 B5 X5 t0 t1 tl hbel hyb
                have hnu : Nonempty (Under W6) := ⟨⟨W6, Below.refl _ _⟩⟩
                have s0 : ∀ u : Under W6, u.x.cell? ⟨pb, 0, none⟩ = some (.int .i64 v.id) := fun u => (u.h.cell tl6).trans t60
                have s1 : ∀ u : Under W6, u.x.cell? ⟨pb, 1, none⟩ = some (.slice (some ⟨b5, off5, none⟩) v.vs.length cv) := fun u => (u.h.cell tl6).trans t61
                have f0 : ∀ u : Under W6, u.x.cell? ⟨yb, 0, none⟩ = some (.int .i64 y.tm) := fun u => (u.h.cell yl).trans y0
                have f1 : ∀ u : Under W6, u.x.cell? ⟨yb, 1, none⟩ = some (.bool y.gone) := fun u => (u.h.cell yl).trans y1
                have f2 : ∀ u : Under W6, u.x.cell? ⟨yb, 2, none⟩ = some (.int .i64 y.doc.k) := fun u => (u.h.cell yl).trans y2
                have f3 : ∀ u : Under W6, u.x.cell? ⟨yb, 3, none⟩ = some (.int .i64 y.doc.n) := fun u => (u.h.cell yl).trans y3
                have f4 : ∀ u : Under W6, u.x.cell? ⟨yb, 4, none⟩ = some (.string y.doc.t) := fun u => (u.h.cell yl).trans y4
                clear y0 y1 y2 y3 y4 t60 t61
                cases hT : timeB y.tm
                · rw [hT] at HI
                  have HF : Hid (R = false) := by rw [hst, hT]; cases decide (z5 < y.tm) <;> rfl
                  clear hst hT hlast6
                  refine wp_region_under (by kernel_rfl) (by kernel_rfl) ?_
                  repeat (go_big_quiet_step ((go_at_call 21; exact calls_under _ (HI.out _))))
                  refine wpQuiet_nil ?_
                  rintro _ ⟨u, rfl⟩
                  have hbw := (X6.step u.h).bel
                  go_wp2_with fail
                  go_ret
                  exact ⟨ret_bool' HF.out.symm, hbw⟩
                have hT1 : 1 ≤ y.tm := by unfold timeB at hT; rw [decide_eq_true_eq] at hT; exact hT.1
                rw [hT] at HI hst
                rw [Bool.true_and] at hst
                clear hT
                rcases hlast6 with ⟨hj0, hz0'⟩ | ⟨m, hjm, hcm⟩
                · have hjn : decide ((0 : Int) < (j : Int)) = false := decide_eq_false (by omega)
                  have hjn2 : decide (0 < j) = false := decide_eq_false (by omega)
                  rw [decide_eq_true (by omega), Bool.true_and] at hst
                  clear hT1 hz0' hj0
                  cases hS : stateB v.id y.gone y.doc
                  · rw [hS] at HL
                    have HF : Hid (R = false) := by rw [hst, hS]; rfl
                    clear hst hS
                    refine wp_region_under (by kernel_rfl) (by kernel_rfl) ?_
                    repeat (go_big_quiet_step (first | (go_at_call 21; exact calls_under _ (HI.out _)) | (go_at_call 45; exact calls_under _ (HL.out _))))
                    refine wpQuiet_nil ?_
                    rintro _ ⟨u, rfl⟩
                    have hbw := (X6.step u.h).bel
                    go_wp2_with fail
                    go_ret
                    exact ⟨ret_bool' HF.out.symm, hbw⟩
                  · rw [hS] at HL
                    have HF : Hid (R = (M && N)) := by rw [hst, hS]; rfl
                    clear hst hS
                    refine wp_region_under (by kernel_rfl) (by kernel_rfl) ?_
                    repeat (go_big_quiet_step (first | (go_at_call 21; exact calls_under _ (HI.out _)) | (go_at_call 45; exact calls_under _ (HL.out _))))
                    refine wpQuiet_nil ?_
                    rintro _ ⟨u, rfl⟩
                    have hbw := hb6.trans (u.h.mono hb6.size)
                    go_wp2_with fail
                    go_roundw
                    case rel => exact ⟨j + 1, by omega, by go_num, HF.out.trans (congrArg (· && N) HM.out), hbw⟩
                    case measure => simp [intOf]; omega
                · have hjn : decide ((0 : Int) < (j : Int)) = true := decide_eq_true (by omega)
                  have hjn2 : decide (0 < j) = true := decide_eq_true (by omega)
                  have hjs : (j : Int) - 1 = (m : Int) := by omega
                  have hml : (m : Int) < (v.vs.length : Int) := by omega
                  have r0 : ∀ u : Under W6, u.x.cell? ⟨b5, off5 + m * 5, none⟩ = some (.int .i64 z5) := fun u => (u.h.cell hbl6).trans hcm
                  clear hT1 hcm
                  by_cases hzt : z5 < y.tm
                  · have hzt' : decide (y.tm ≤ z5) = false := decide_eq_false (by omega)
                    rw [decide_eq_true hzt, Bool.true_and] at hst
                    clear hzt hjm
                    cases hS : stateB v.id y.gone y.doc
                    · rw [hS] at HL
                      have HF : Hid (R = false) := by rw [hst, hS]; rfl
                      clear hst hS
                      refine wp_region_under (by kernel_rfl) (by kernel_rfl) ?_
                      repeat (go_big_quiet_step (first | (go_at_call 21; exact calls_under _ (HI.out _)) | (go_at_call 45; exact calls_under _ (HL.out _))))
                      refine wpQuiet_nil ?_
                      rintro _ ⟨u, rfl⟩
                      have hbw := (X6.step u.h).bel
                      go_wp2_with fail
                      go_ret
                      exact ⟨ret_bool' HF.out.symm, hbw⟩
                    · rw [hS] at HL
                      have HF : Hid (R = (M && N)) := by rw [hst, hS]; rfl
                      clear hst hS
                      refine wp_region_under (by kernel_rfl) (by kernel_rfl) ?_
                      repeat (go_big_quiet_step (first | (go_at_call 21; exact calls_under _ (HI.out _)) | (go_at_call 45; exact calls_under _ (HL.out _))))
                      refine wpQuiet_nil ?_
                      rintro _ ⟨u, rfl⟩
                      have hbw := hb6.trans (u.h.mono hb6.size)
                      go_wp2_with fail
                      go_roundw
                      case rel => exact ⟨j + 1, by omega, by go_num, HF.out.trans (congrArg (· && N) HM.out), hbw⟩
                      case measure => simp [intOf]; omega
                  · have hzt' : decide (y.tm ≤ z5) = true := decide_eq_true (by omega)
                    rw [decide_eq_false hzt, Bool.false_and] at hst
                    have HF : Hid (R = false) := hst
                    clear hst hzt hjm
                    refine wp_region_under (by kernel_rfl) (by kernel_rfl) ?_
                    repeat (go_big_quiet_step ((go_at_call 21; exact calls_under _ (HI.out _))))
                    refine wpQuiet_nil ?_
                    rintro _ ⟨u, rfl⟩
                    have hbw := (X6.step u.h).bel
                    go_wp2_with fail
                    go_ret
                    exact ⟨ret_bool' HF.out.symm, hbw⟩
              · have hjl2 : ¬ (j : Int) < (v.vs.length : Int) := by omega
                have HF : Hid (R = N) := hall.trans ((congrArg (· && N) (versB_end v.id v.vs j (by omega))).trans (Bool.true_and N))
                have hbw := hbw4.trans (hbel.mono hbw4.size)
                clear hall
                go_wp2_with fail
                go_roundw
                case rel => exact ⟨k + 1, by omega, by go_num, HF.out.trans HNX.out, hbw⟩
                case measure => simp [intOf]; omega
        · have hlt2 : ¬ (k : Int) < (chs.length : Int) := by omega
          have HF : Hid (R = true) := hall.trans (chsB_end chs k (by omega))
          have hbw := X2.bel
          clear hall
          go_wp2_with fail
          go_ret
          exact ⟨ret_bool' HF.out.symm, hbw⟩

end Go.Proofs.YtncpijfbbgipaaaGreatDoor.Co
