/- Whether a collection is right, said plainly. Nothing of the program is used here but the texts on documents and definitions. -/
import Derived.Test.YtpfbepbmiillbaaGreatDoorDocBR
import Derived.Test.YtpfbepbmiillbaaGreatDoorColPR
import Derived.Test.YtpfbepbmiillbaaGreatDoorColDR
namespace Go.Proofs.YtpfbepbmiillbaaGreatDoor.Co
open Go.RowKit Tr
set_option linter.unusedVariables false

/-- A collection. -/
structure Col where
  name : ByteArray
  chs : List Chn
  dfs : List Dfn
def versB (id : Int) : Int → List Ver → Bool
  | _, [] => true
  | last, v :: r => decide (last < v.tm) && (timeB v.tm && (stateB id v.gone v.doc && versB id v.tm r))
def chnB (c : Chn) : Bool := decide (1 ≤ c.vs.length ∧ c.vs.length ≤ 12) && versB c.id 0 c.vs
def chsB : Int → List Chn → Bool
  | _, [] => true
  | last, c :: r => decide (last < c.id) && (topB c.id && (chnB c && chsB c.id r))
def namedP (n : ByteArray) (d : Dfn) : Bool := d.name.toList == n.toList
def defsB : List Dfn → List Dfn → Bool
  | _, [] => true
  | pre, d :: r => defB d.name d.ps && (!(pre.any (namedP d.name)) && defsB (pre ++ [d]) r)
def dfsB (l : List Dfn) : Bool := decide (l.length ≤ 3) && defsB [] l
def collB (c : Col) : Bool := shortB c.name && (dfsB c.dfs && chsB (-1) c.chs)
/-- What the version, or the chain, ahead of a place has. -/
def lastV (l : List Ver) : Nat → Int
  | 0 => 0
  | k + 1 => match l[k]? with | some v => v.tm | none => 0
def lastC (l : List Chn) : Nat → Int
  | 0 => -1
  | k + 1 => match l[k]? with | some v => v.id | none => -1
theorem lastV_succ (l : List Ver) (k : Nat) (h : k < l.length) : lastV l (k + 1) = l[k].tm := by show (match l[k]? with | some v => v.tm | none => 0) = _; rw [List.getElem?_eq_getElem h]
theorem lastC_succ (l : List Chn) (k : Nat) (h : k < l.length) : lastC l (k + 1) = l[k].id := by show (match l[k]? with | some v => v.id | none => -1) = _; rw [List.getElem?_eq_getElem h]
theorem versB_step (id : Int) (l : List Ver) (k : Nat) (h : k < l.length) : versB id (lastV l k) (l.drop k) = (decide (lastV l k < l[k].tm) && (timeB l[k].tm && (stateB id l[k].gone l[k].doc && versB id (lastV l (k + 1)) (l.drop (k + 1))))) := by
  rw [List.drop_eq_getElem_cons h, versB, lastV_succ l k h]
theorem versB_end (id : Int) (l : List Ver) (k : Nat) (h : l.length ≤ k) : versB id (lastV l k) (l.drop k) = true := by
  rw [List.drop_eq_nil_of_le h]; rfl
theorem chsB_step (l : List Chn) (k : Nat) (h : k < l.length) : chsB (lastC l k) (l.drop k) = (decide (lastC l k < l[k].id) && (topB l[k].id && (chnB l[k] && chsB (lastC l (k + 1)) (l.drop (k + 1))))) := by
  rw [List.drop_eq_getElem_cons h, chsB, lastC_succ l k h]
theorem chsB_end (l : List Chn) (k : Nat) (h : l.length ≤ k) : chsB (lastC l k) (l.drop k) = true := by
  rw [List.drop_eq_nil_of_le h]; rfl
theorem chsB_len : ∀ (l : List Chn) (last : Int), -1 ≤ last → last ≤ 19 → chsB last l = true → (l.length : Int) ≤ 19 - last
  | [], last, h0, h1, _ => by simp; omega
  | c :: r, last, h0, h1, h => by
    rw [chsB] at h
    simp only [Bool.and_eq_true, decide_eq_true_eq, topB] at h
    obtain ⟨a1, a2, a3, a4⟩ := h
    have := chsB_len r c.id (by omega) a2.2 a4
    simp only [List.length_cons]
    omega
theorem chsB_long (l : List Chn) (h : 20 < l.length) : chsB (-1) l = false := by
  rw [Bool.eq_false_iff]; intro hh
  have := chsB_len l (-1) (by omega) (by omega) hh
  omega
theorem defsB_step (l : List Dfn) (k : Nat) (h : k < l.length) : defsB (l.take k) (l.drop k) = (defB l[k].name l[k].ps && (!((l.take k).any (namedP l[k].name)) && defsB (l.take (k + 1)) (l.drop (k + 1)))) := by
  rw [List.drop_eq_getElem_cons h, defsB, List.take_succ_eq_append_getElem h]
theorem defsB_end (l : List Dfn) (k : Nat) (h : l.length ≤ k) : defsB (l.take k) (l.drop k) = true := by
  rw [List.drop_eq_nil_of_le h]; rfl
end Go.Proofs.YtpfbepbmiillbaaGreatDoor.Co

/- Whether a chain of versions is right: the program's answer. -/
namespace Go.Proofs.YtpfbepbmiillbaaGreatDoor.Co
open Go.RowKit Tr
set_option linter.unusedVariables false

/-- A box of two cells. -/
structure Box2 (w W : World) (a b : Value) : Prop where
  bel : Below w.heap.size w W
  lt : w.heap.size < W.heap.size
  c0 : W.cell? ⟨w.heap.size, 0, none⟩ = some a
  c1 : W.cell? ⟨w.heap.size, 1, none⟩ = some b
theorem Box2.start (w : World) (a b : Value) (T : TypeId) : Box2 w (w.alloc (.cells #[a, b] T)) a b :=
  ⟨(Below.refl _ _).alloc (Nat.le_refl _) _, by simp, by simp [go_sem], by simp [go_sem]⟩
theorem Box2.step {w W W' : World} {a b : Value} (h : Box2 w W a b) (hb : Below W.heap.size W W') : Box2 w W' a b :=
  ⟨h.bel.trans (hb.mono h.bel.size), Nat.lt_of_lt_of_le h.lt hb.size, (hb.cell h.lt).trans h.c0, (hb.cell h.lt).trans h.c1⟩
/-- A box of a version: five cells. -/
structure Box5 (w W : World) (v : Ver) : Prop where
  bel : Below w.heap.size w W
  lt : w.heap.size < W.heap.size
  c0 : W.cell? ⟨w.heap.size, 0, none⟩ = some (.int .i64 v.tm)
  c1 : W.cell? ⟨w.heap.size, 1, none⟩ = some (.bool v.gone)
  c2 : W.cell? ⟨w.heap.size, 2, none⟩ = some (.int .i64 v.doc.k)
  c3 : W.cell? ⟨w.heap.size, 3, none⟩ = some (.int .i64 v.doc.n)
  c4 : W.cell? ⟨w.heap.size, 4, none⟩ = some (.string v.doc.t)
theorem Box5.start (w : World) (v : Ver) (T : TypeId) : Box5 w (w.alloc (.cells #[.int .i64 v.tm, .bool v.gone, .int .i64 v.doc.k, .int .i64 v.doc.n, .string v.doc.t] T)) v :=
  ⟨(Below.refl _ _).alloc (Nat.le_refl _) _, by simp, by simp [go_sem], by simp [go_sem], by simp [go_sem], by simp [go_sem], by simp [go_sem]⟩
theorem Box5.step {w W W' : World} {v : Ver} (h : Box5 w W v) (hb : Below W.heap.size W W') : Box5 w W' v :=
  ⟨h.bel.trans (hb.mono h.bel.size), Nat.lt_of_lt_of_le h.lt hb.size, (hb.cell h.lt).trans h.c0, (hb.cell h.lt).trans h.c1, (hb.cell h.lt).trans h.c2, (hb.cell h.lt).trans h.c3, (hb.cell h.lt).trans h.c4⟩

set_option maxRecDepth 4000 in
set_option maxHeartbeats 2000000 in
theorem versionsOK_any (id : Int) (p : Option Addr) (cap : Nat) (l : List Ver) (w : World) (hin : InVr w p l) (hid : 0 ≤ id) (hl : l.length ≤ 1048576) (hs : ∀ v ∈ l, szVr v) :
    Calls Tryz.prog 146 #[.agg #[.int .i64 id, .slice p l.length cap]] w fun e w' => e = .returned (.bool (chnB ⟨id, l⟩)) ∧ Below w.heap.size w w' := by
  have X0 := Box2.start w (.int .i64 id) (.slice p l.length cap) 66
  have hbw0 := X0.bel
  have HI : Hid (InVr _ _ _) := hin
  have HS : Hid _ := hs
  clear hin hs
  obtain ⟨R, hR⟩ : ∃ R, R = chnB ⟨id, l⟩ := ⟨_, rfl⟩
  rw [← hR]
  unfold chnB at hR
  simp only at hR
  by_cases h12 : 1 ≤ l.length ∧ l.length ≤ 12
  · rw [decide_eq_true h12, Bool.true_and] at hR
    have HR : Hid (R = versB id 0 l) := hR
    have a1 : ¬ (l.length : Int) < 1 := by omega
    have a2 : ¬ (12 : Int) < (l.length : Int) := by omega
    clear hR h12
    go_enter Tryz.func146, Tryz.ntmps146
    go_wp2_with fail
    generalize w.alloc (.cells #[.int .i64 id, .slice p l.length cap] 66) = W0 at X0 hbw0 ⊢
    go_loopw [3, 19] (fun u i wr => ∃ k : Nat, k ≤ l.length ∧ i = .int .i64 k ∧ u = .int .i64 (lastV l k) ∧ R = versB id (lastV l k) (l.drop k) ∧ Below W0.heap.size W0 wr) (fun _ i _ => l.length - (intOf i).toNat)
    case atStart => exact ⟨0, Nat.zero_le _, rfl, rfl, HR.out, Below.refl _ _⟩
    case round =>
      obtain ⟨k, hk, rfl, rfl, hall, hbel⟩ := hrel
      have X := X0.step hbel
      clear hbw0
      by_cases hlt : k < l.length
      · rcases HI.out.step X.bel with h0 | ⟨b, off, rfl, hbl, hcell⟩
        · omega
        have hst := hall.trans (versB_step id l k hlt)
        obtain ⟨x0, x1, x2, x3, x4⟩ := hcell k hlt
        have hlt2 : (k : Int) < (l.length : Int) := by omega
        have hsz := HS.out l[k] (List.getElem_mem _)
        have hlv := lastV_succ l k hlt
        obtain ⟨v, hv⟩ : ∃ v, v = l[k] := ⟨_, rfl⟩
        rw [← hv] at x0 x1 x2 x3 x4 hst hsz hlv
        obtain ⟨q, hq⟩ : ∃ q, q = lastV l k := ⟨_, rfl⟩
        rw [← hq] at hst ⊢
        have hsz2 : v.doc.t.size ≤ 1048576 := hsz
        have HT : Hid (∀ W : World, Calls _ _ _ W _) := fun W => timeOK_any v.tm W
        have HC : Hid (∀ W : World, Calls _ _ _ W _) := fun W => stateOK_any id v.gone v.doc W hid hsz2
        have B0 := Box5.start wr v 70
        have hbB := X.bel.trans (B0.bel.mono X.bel.size)
        have c0 := (B0.bel.cell X.lt).trans X.c0
        clear hall hcell hq hv
        by_cases e1 : q < v.tm
        · have e1' : ¬ v.tm ≤ q := by omega
          rw [decide_eq_true e1, Bool.true_and] at hst
          cases e2 : timeB v.tm
          · rw [e2] at hst HT
            have HF : Hid (R = false) := hst
            clear hst e2 e1
            go_wp2_with fail
            refine (HT.out _).mono ?_
            rintro e w1 ⟨rfl, rfl⟩
            go_wp2_with fail
            go_ret
            exact ⟨ret_bool' HF.out.symm, hbB⟩
          · rw [e2, Bool.true_and] at hst
            rw [e2] at HT
            have hc := c0
            cases e3 : stateB id v.gone v.doc
            · rw [e3] at hst HC
              have HF : Hid (R = false) := hst
              clear hst e2 e1 e3
              go_wp2_with fail
              refine (HT.out _).mono ?_
              rintro e w1 ⟨rfl, rfl⟩
              go_wp2_with fail
              refine (HC.out _).mono ?_
              rintro e w2 ⟨rfl, hb⟩
              have hbw := hbB.trans (hb.mono hbB.size)
              clear hb
              go_wp2_with fail
              go_ret
              exact ⟨ret_bool' HF.out.symm, hbw⟩
            · rw [e3, Bool.true_and] at hst
              rw [e3] at HC
              have HF : Hid (R = _) := hst
              clear hst e2 e1 e3
              go_wp2_with fail
              refine (HT.out _).mono ?_
              rintro e w1 ⟨rfl, rfl⟩
              go_wp2_with fail
              refine (HC.out _).mono ?_
              rintro e w2 ⟨rfl, hb⟩
              have d0 := (B0.step hb).c0
              have hbw : Below W0.heap.size W0 w2 := hbel.trans ((B0.step hb).bel.mono hbel.size)
              clear hb
              go_wp2_with fail
              go_roundw
              case rel => exact ⟨k + 1, by omega, by go_num, by rw [hlv], HF.out, hbw⟩
              case measure => simp [intOf]; omega
        · have e1' : v.tm ≤ q := by omega
          rw [decide_eq_false e1, Bool.false_and] at hst
          have HF : Hid (R = false) := hst
          clear hst e1
          go_wp2_with fail
          go_ret
          exact ⟨ret_bool' HF.out.symm, hbB⟩
      · have hlt2 : ¬ (k : Int) < (l.length : Int) := by omega
        have hRt := hall.trans (versB_end id l k (by omega))
        have HF : Hid (R = true) := hRt
        have hbw := X.bel
        clear hRt hall
        go_wp2_with fail
        go_ret
        exact ⟨ret_bool' HF.out.symm, hbw⟩
  · rw [decide_eq_false h12, Bool.false_and] at hR
    subst hR
    by_cases h1 : l.length < 1
    · have a1 : (l.length : Int) < 1 := by omega
      clear h12 h1
      go_enter Tryz.func146, Tryz.ntmps146
      go_wp2_with fail
      go_ret
      exact ⟨rfl, hbw0⟩
    · have a1 : ¬ (l.length : Int) < 1 := by omega
      have a2 : (12 : Int) < (l.length : Int) := by omega
      clear h12 h1
      go_enter Tryz.func146, Tryz.ntmps146
      go_wp2_with fail
      go_ret
      exact ⟨rfl, hbw0⟩

end Go.Proofs.YtpfbepbmiillbaaGreatDoor.Co

/- Whether chains, definitions and a collection are right: the program's answers. -/
namespace Go.Proofs.YtpfbepbmiillbaaGreatDoor.Co
open Go.RowKit Tr
set_option linter.unusedVariables false

set_option maxRecDepth 4000 in
set_option maxHeartbeats 2000000 in
theorem chainsOK_any (p : Option Addr) (cap : Nat) (l : List Chn) (w : World) (hin : InCh w p l) (hl : l.length ≤ 1048576) (hs : ∀ v ∈ l, szCh v) :
    Calls Tryz.prog 109 #[.slice p l.length cap] w fun e w' => e = .returned (.bool (chsB (-1) l)) ∧ Below w.heap.size w w' := by
  have HI : Hid (InCh _ _ _) := hin
  have HS : Hid _ := hs
  clear hin hs
  obtain ⟨R, hR⟩ : ∃ R, R = chsB (-1) l := ⟨_, rfl⟩
  rw [← hR]
  have HR : Hid (R = chsB (-1) l) := hR
  clear hR
  go_enter Tryz.func109, Tryz.ntmps109
  go_wp2_with fail
  go_loopw [3, 8] (fun u i wr => ∃ k : Nat, k ≤ l.length ∧ i = .int .i64 k ∧ u = .int .i64 (lastC l k) ∧ R = chsB (lastC l k) (l.drop k) ∧ Below w.heap.size w wr) (fun _ i _ => l.length - (intOf i).toNat)
  case atStart => exact ⟨0, Nat.zero_le _, rfl, rfl, HR.out, Below.refl _ _⟩
  case round =>
    obtain ⟨k, hk, rfl, rfl, hall, hbel⟩ := hrel
    by_cases hlt : k < l.length
    · rcases HI.out.step hbel with h0 | ⟨b, off, rfl, hbl, hcell⟩
      · omega
      have hst := hall.trans (chsB_step l k hlt)
      obtain ⟨x0, pv, cv, x1, hT⟩ := hcell k hlt
      have hlt2 : (k : Int) < (l.length : Int) := by omega
      have hsz := HS.out l[k] (List.getElem_mem _)
      have hlv := lastC_succ l k hlt
      obtain ⟨v, hv⟩ : ∃ v, v = l[k] := ⟨_, rfl⟩
      rw [← hv] at x0 x1 hT hst hsz hlv
      obtain ⟨q, hq⟩ : ∃ q, q = lastC l k := ⟨_, rfl⟩
      rw [← hq] at hst ⊢
      have HT : Hid (∀ W : World, Calls _ _ _ W _) := fun W => topIdOK_any v.id W
      have B0 := Box2.start wr (.int .i64 v.id) (.slice pv v.vs.length cv) 66
      have hbB := hbel.trans (B0.bel.mono hbel.size)
      clear hall hcell hq hv
      by_cases e1 : q < v.id
      · have e1' : ¬ v.id ≤ q := by omega
        rw [decide_eq_true e1, Bool.true_and] at hst
        cases e2 : topB v.id
        · rw [e2] at hst HT
          have HF : Hid (R = false) := hst
          clear hst e2 e1
          go_wp2_with fail
          refine (HT.out _).mono ?_
          rintro e w1 ⟨rfl, rfl⟩
          go_wp2_with fail
          go_ret
          exact ⟨ret_bool' HF.out.symm, hbB⟩
        · have hid : 0 ≤ v.id := by unfold topB at e2; rw [decide_eq_true_eq] at e2; exact e2.1
          have HC : Hid (∀ W : World, Below wr.heap.size wr W → Calls _ _ _ W _) := fun W hW => versionsOK_any v.id pv cv v.vs W (hT.step hW) hid hsz.1 hsz.2
          rw [e2, Bool.true_and] at hst
          rw [e2] at HT
          have hcn : (⟨v.id, v.vs⟩ : Chn) = v := rfl
          rw [hcn] at HC
          cases e3 : chnB v
          · rw [e3] at hst HC
            have HF : Hid (R = false) := hst
            clear hst e2 e1 e3
            go_wp2_with fail
            refine (HT.out _).mono ?_
            rintro e w1 ⟨rfl, rfl⟩
            go_wp2_with fail
            refine (HC.out _ B0.bel).mono ?_
            rintro e w2 ⟨rfl, hb⟩
            have hbw := hbB.trans (hb.mono hbB.size)
            clear hb
            go_wp2_with fail
            go_ret
            exact ⟨ret_bool' HF.out.symm, hbw⟩
          · rw [e3, Bool.true_and] at hst
            rw [e3] at HC
            have HF : Hid (R = _) := hst
            clear hst e2 e1 e3
            go_wp2_with fail
            refine (HT.out _).mono ?_
            rintro e w1 ⟨rfl, rfl⟩
            go_wp2_with fail
            refine (HC.out _ B0.bel).mono ?_
            rintro e w2 ⟨rfl, hb⟩
            have d0 := (B0.step hb).c0
            have hbw : Below w.heap.size w w2 := hbel.trans ((B0.step hb).bel.mono hbel.size)
            clear hb
            go_wp2_with fail
            go_roundw
            case rel => exact ⟨k + 1, by omega, by go_num, by rw [hlv], HF.out, hbw⟩
            case measure => simp [intOf]; omega
      · have e1' : v.id ≤ q := by omega
        rw [decide_eq_false e1, Bool.false_and] at hst
        have HF : Hid (R = false) := hst
        clear hst e1
        go_wp2_with fail
        go_ret
        exact ⟨ret_bool' HF.out.symm, hbB⟩
    · have hlt2 : ¬ (k : Int) < (l.length : Int) := by omega
      have hRt := hall.trans (chsB_end l k (by omega))
      have HF : Hid (R = true) := hRt
      clear hRt hall
      go_wp2_with fail
      go_ret
      exact ⟨ret_bool' HF.out.symm, hbel⟩

/-- The first place where something holds, -1 without one. -/
def FirstAt {α : Type} (P : α → Bool) (l : List α) (r : Int) : Prop := (r = -1 ∧ ∀ u ∈ l, P u = false) ∨ ∃ (k : Nat) (h : k < l.length), r = k ∧ P l[k] = true ∧ ∀ u ∈ l.take k, P u = false
theorem FirstAt.ahead {l : List Dfn} {r : Int} {i : Nat} (hi : i < l.length) (h : FirstAt (namedP l[i].name) l r) : decide (r < (i : Int)) = (l.take i).any (namedP l[i].name) := by
  have hself : namedP l[i].name l[i] = true := by unfold namedP; simp
  rcases h with ⟨_, h⟩ | ⟨k, hk, rfl, h1, h2⟩
  · rw [h l[i] (List.getElem_mem _)] at hself; cases hself
  · have hki : k ≤ i := by
      rcases Nat.lt_or_ge i k with h | h
      · have := h2 l[i] (by rw [List.mem_take_iff_getElem]; exact ⟨i, by omega, rfl⟩)
        rw [this] at hself; cases hself
      · exact h
    by_cases e : k < i
    · rw [decide_eq_true (by omega)]
      symm
      rw [List.any_eq_true]
      exact ⟨l[k], by rw [List.mem_take_iff_getElem]; exact ⟨k, by omega, rfl⟩, h1⟩
    · obtain rfl : k = i := by omega
      rw [decide_eq_false (by omega)]
      symm
      rw [Bool.eq_false_iff]
      intro hh
      obtain ⟨u, hu, he⟩ := List.any_eq_true.mp hh
      rw [h2 u hu] at he; cases he
set_option maxRecDepth 4000 in
set_option maxHeartbeats 1000000 in
theorem namedD_any (s n : ByteArray) (v : Value) (b : Nat) (w : World) (hc : w.cell? ⟨b, 0, none⟩ = some (.string s)) (hb : b < w.heap.size) :
    Calls Tryz.prog 179 #[.agg #[.string n, v], .pointer (some ⟨b, 0, none⟩)] w fun e w' => e = .returned (.bool (n.toList == s.toList)) ∧ Below w.heap.size w w' := by
  go_enter Tryz.func179, Tryz.ntmps179
  go_wp2_with fail
  go_ret
  exact ⟨rfl, by (repeat (first | (with_reducible exact Below.refl _ _) | (with_reducible assumption) | (with_reducible apply below_drewN) | (with_reducible apply Below.drew) | ((with_reducible refine Below.setCell ?_ ?_ _); rotate_left; focus (first | (simp; done) | (simp; omega) | omega)) | ((with_reducible refine Below.alloc ?_ ?_ _); rotate_left; focus (first | (simp; done) | (simp; omega) | omega))))⟩
set_option maxRecDepth 4000 in
set_option maxHeartbeats 1000000 in
theorem idxNamed_any (s : ByteArray) (b : Nat) (q : Option Addr) (qc : Nat) (l : List Dfn) (w : World) (hc : w.cell? ⟨b, 0, none⟩ = some (.string s)) (hb : b < w.heap.size) (hr : RowDf w q l) (hl : l.length ≤ 1048576) :
    Calls Tryz.prog 178 #[.slice q l.length qc, .func (.func 179) #[] #[.pointer (some ⟨b, 0, none⟩)]] w fun e w' => (∃ i : Int, e = .returned (.int .i64 i) ∧ FirstAt (namedP s) l i) ∧ Below w.heap.size w w' := by
  have HR : Hid (RowDf _ _ _) := hr
  clear hr
  obtain ⟨P, hP0⟩ : ∃ P : Dfn → Bool, P = namedP s := ⟨_, rfl⟩
  rw [← hP0]
  have HP0 : Hid _ := hP0
  clear hP0
  go_enter Tryz.func178, Tryz.ntmps178
  go_wp2_with fail
  go_loopw [8] (fun i wr => ∃ k : Nat, k ≤ l.length ∧ i = .int .i64 k ∧ (∀ u ∈ l.take k, P u = false) ∧ Below w.heap.size w wr) (fun i _ => l.length - (intOf i).toNat)
  case atStart => exact ⟨0, Nat.zero_le _, rfl, fun u hu => by simp at hu, Below.refl _ _⟩
  case round =>
    obtain ⟨k, hk, rfl, hall, hbel⟩ := hrel
    have HA : Hid _ := hall
    clear hall
    by_cases hlt : k < l.length
    · rcases HR.out.next hbel with h0 | ⟨g, rfl, R⟩
      · subst h0; simp at hlt
      obtain ⟨x0, pv, cv, x1, _, _⟩ := R.cells k hlt
      have hlt2 : (k : Int) < (l.length : Int) := by omega
      have HK0 := namedD_any s l[k].name (.slice pv l[k].ps.length cv) b wr ((hbel.cell hb).trans hc) (Nat.lt_of_lt_of_le hb hbel.size)
      have hPk : P l[k] = (l[k].name.toList == s.toList) := by rw [HP0.out]; rfl
      rw [← hPk] at HK0
      cases hP : P l[k]
      · rw [hP] at HK0
        have HK : Hid (Calls _ _ _ _ _) := HK0
        have HPK : Hid _ := hP
        clear R hP HK0 hPk
        go_wp2_with fail
        refine HK.out.mono ?_
        rintro e w1 ⟨rfl, hb1⟩
        have hb2 := hbel.trans (hb1.mono hbel.size)
        clear hb1 HK
        go_wp2_with fail
        go_roundw
        case rel =>
          refine ⟨k + 1, by omega, by go_num, ?_, hb2⟩
          intro u hu
          rw [List.take_succ_eq_append_getElem hlt] at hu
          rcases List.mem_append.mp hu with h | h
          · exact HA.out u h
          · simp at h; subst h; exact HPK.out
        case measure => simp [intOf]; omega
      · rw [hP] at HK0
        have HK : Hid (Calls _ _ _ _ _) := HK0
        have HPK : Hid _ := hP
        clear R hP HK0 hPk
        go_wp2_with fail
        refine HK.out.mono ?_
        rintro e w1 ⟨rfl, hb1⟩
        have hb2 := hbel.trans (hb1.mono hbel.size)
        clear hb1 HK
        go_wp2_with fail
        go_ret
        exact ⟨⟨k, rfl, .inr ⟨k, hlt, rfl, HPK.out, HA.out⟩⟩, hb2⟩
    · have hlt2 : ¬ (k : Int) < (l.length : Int) := by omega
      go_wp2_with fail
      go_ret
      exact ⟨⟨-1, rfl, .inl ⟨rfl, fun u hu => HA.out u (by rw [List.take_of_length_le (by omega)]; exact hu)⟩⟩, hbel⟩
set_option maxRecDepth 4000 in
set_option maxHeartbeats 1000000 in
theorem defPlace_any (s : ByteArray) (q : Option Addr) (qc : Nat) (l : List Dfn) (w : World) (hr : RowDf w q l) (hl : l.length ≤ 1048576) :
    Calls Tryz.prog 144 #[.slice q l.length qc, .string s] w fun e w' => (∃ i : Int, e = .returned (.int .i64 i) ∧ FirstAt (namedP s) l i) ∧ Below w.heap.size w w' := by
  have hb0 : Below w.heap.size w (w.alloc (.cells #[.string s] 9)) := (Below.refl _ _).alloc (Nat.le_refl _) _
  have HC : Hid (Calls _ _ _ _ _) := idxNamed_any s w.heap.size q qc l (w.alloc (.cells #[.string s] 9)) (by simp [go_sem]) (by simp) (hr.next hb0) hl
  clear hr
  go_enter Tryz.func144, Tryz.ntmps144
  go_wp2_with fail
  refine HC.out.mono ?_
  rintro e w1 ⟨⟨i, rfl, hi⟩, hb⟩
  have hbw := hb0.trans (hb.mono hb0.size)
  have HF : Hid (FirstAt _ _ _) := hi
  clear hb HC hi
  go_wp2_with fail
  go_ret
  exact ⟨⟨i, rfl, HF.out⟩, hbw⟩
set_option maxRecDepth 4000 in
set_option maxHeartbeats 2000000 in
theorem defsOK_any (p : Option Addr) (cap : Nat) (l : List Dfn) (w : World) (hr : RowDf w p l) (hl : l.length ≤ 1048576) (hs : ∀ v ∈ l, szDf v) :
    Calls Tryz.prog 108 #[.slice p l.length cap] w fun e w' => e = .returned (.bool (dfsB l)) ∧ Below w.heap.size w w' := by
  have HR : Hid (RowDf _ _ _) := hr
  have HS : Hid _ := hs
  clear hr hs
  obtain ⟨R, hR⟩ : ∃ R, R = dfsB l := ⟨_, rfl⟩
  rw [← hR]
  unfold dfsB at hR
  by_cases h3 : l.length ≤ 3
  · rw [decide_eq_true h3, Bool.true_and] at hR
    have a3 : ¬ (3 : Int) < (l.length : Int) := by omega
    have HRR : Hid (R = defsB [] l) := hR
    clear hR h3
    go_enter Tryz.func108, Tryz.ntmps108
    go_wp2_with fail
    go_loopw [10] (fun i wr => ∃ k : Nat, k ≤ l.length ∧ i = .int .i64 k ∧ R = defsB (l.take k) (l.drop k) ∧ Below w.heap.size w wr) (fun i _ => l.length - (intOf i).toNat)
    case atStart => exact ⟨0, Nat.zero_le _, rfl, HRR.out, Below.refl _ _⟩
    case round =>
      obtain ⟨k, hk, rfl, hall, hbel⟩ := hrel
      by_cases hlt : k < l.length
      · have HRk := HR.out.next hbel
        obtain ⟨g, rfl, R1⟩ := HRk.resolve_left (fun h0 => by subst h0; simp at hlt)
        have hst := hall.trans (defsB_step l k hlt)
        obtain ⟨x0, pv, cv, x1, hcv, hT⟩ := R1.cells k hlt
        have hlt2 : (k : Int) < (l.length : Int) := by omega
        have hsz := HS.out l[k] (List.getElem_mem _)
        have hfirst : ∀ r : Int, FirstAt (namedP l[k].name) l r → decide (r < (k : Int)) = (l.take k).any (namedP l[k].name) := fun r h => h.ahead hlt
        obtain ⟨v, hv⟩ : ∃ v, v = l[k] := ⟨_, rfl⟩
        rw [← hv] at x0 x1 hT hst hsz hcv hfirst
        have HFI : Hid (∀ r : Int, FirstAt (namedP v.name) l r → decide (r < (k : Int)) = (l.take k).any (namedP v.name)) := hfirst
        have B0 := Box2.start wr (.string v.name) (.slice pv v.ps.length cv) 155
        have hbB := hbel.trans (B0.bel.mono hbel.size)
        have HC : Hid (∀ W : World, Below wr.heap.size wr W → Calls _ _ _ W _) := fun W hW => defOK_any v.name pv cv v.ps W (hT.next hW) hsz.1 hsz.2.1 hcv hsz.2.2
        have HP : Hid (∀ W : World, Below wr.heap.size wr W → Calls _ _ _ W _) := fun W hW => defPlace_any v.name (some ⟨g, 0, none⟩) cap l W (HRk.next hW) hl
        clear hall hv hfirst R1 HRk hT hsz
        cases e1 : defB v.name v.ps
        · rw [e1] at hst HC
          have HF : Hid (R = false) := hst
          clear hst e1
          go_wp2_with fail
          refine (HC.out _ B0.bel).mono ?_
          rintro e w1 ⟨rfl, hb⟩
          have hbw := hbB.trans (hb.mono hbB.size)
          clear hb
          go_wp2_with fail
          go_ret
          exact ⟨ret_bool' HF.out.symm, hbw⟩
        · rw [e1, Bool.true_and] at hst
          rw [e1] at HC
          have HN : Hid (R = _) := hst
          clear hst e1
          go_wp2_with fail
          refine (HC.out _ B0.bel).mono ?_
          rintro e w1 ⟨rfl, hb⟩
          have B1 := B0.step hb
          have d0 := B1.c0
          have hbw := hbB.trans (hb.mono hbB.size)
          clear hb
          go_wp2_with fail
          refine (HP.out _ B1.bel).mono ?_
          rintro e w2 ⟨⟨r, rfl, hr⟩, hb⟩
          have hdec := HFI.out r hr
          have hbw2 := hbw.trans (hb.mono hbw.size)
          clear hb hr
          by_cases e2 : r < (k : Int)
          · rw [decide_eq_true e2] at hdec
            have HF : Hid (R = false) := by rw [HN.out, ← hdec]; rfl
            clear hdec
            go_wp2_with fail
            go_ret
            exact ⟨ret_bool' HF.out.symm, hbw2⟩
          · rw [decide_eq_false e2] at hdec
            have HF : Hid (R = defsB (l.take (k + 1)) (l.drop (k + 1))) := by rw [HN.out, ← hdec]; rfl
            clear hdec
            go_wp2_with fail
            go_roundw
            case rel => exact ⟨k + 1, by omega, by go_num, HF.out, hbw2⟩
            case measure => simp [intOf]; omega
      · have hlt2 : ¬ (k : Int) < (l.length : Int) := by omega
        have hRt := hall.trans (defsB_end l k (by omega))
        have HF : Hid (R = true) := hRt
        clear hRt hall
        go_wp2_with fail
        go_ret
        exact ⟨ret_bool' HF.out.symm, hbel⟩
  · rw [decide_eq_false h3, Bool.false_and] at hR
    subst hR
    have a3 : (3 : Int) < (l.length : Int) := by omega
    go_enter Tryz.func108, Tryz.ntmps108
    go_wp2_with fail
    go_ret
    exact ⟨rfl, Below.refl _ _⟩
/-- What a collection's parts measure at most. -/
structure SzCol (c : Col) : Prop where
  name : c.name.size ≤ 1048576
  chl : c.chs.length ≤ 1048576
  chs : ∀ v ∈ c.chs, szCh v
  dfl : c.dfs.length ≤ 1048576
  dfs : ∀ v ∈ c.dfs, szDf v
set_option maxRecDepth 4000 in
set_option maxHeartbeats 2000000 in
theorem collOK_any (c : Col) (p q : Option Addr) (cp cq : Nat) (w : World) (hp : InCh w p c.chs) (hq : RowDf w q c.dfs) (hs : SzCol c) :
    Calls Tryz.prog 71 #[.agg #[.string c.name, .slice p c.chs.length cp, .slice q c.dfs.length cq]] w fun e w' => e = .returned (.bool (collB c)) ∧ Below w.heap.size w w' := by
  have X0 := Boxed.start w (.string c.name) (.slice p c.chs.length cp) (.slice q c.dfs.length cq) 63
  have hbw0 := X0.bel
  have HN : Hid (∀ W : World, Calls _ _ _ W _) := fun W => shortNameOK_any c.name W (by have := hs.name; unfold maxLen; omega)
  have HD : Hid (∀ W : World, Below w.heap.size w W → Calls _ _ _ W _) := fun W hW => defsOK_any q cq c.dfs W (hq.next hW) hs.dfl hs.dfs
  have HC : Hid (∀ W : World, Below w.heap.size w W → Calls _ _ _ W _) := fun W hW => chainsOK_any p cp c.chs W (hp.step hW) hs.chl hs.chs
  obtain ⟨R, hR⟩ : ∃ R, R = collB c := ⟨_, rfl⟩
  rw [← hR]
  unfold collB at hR
  clear hp hq hs
  cases e1 : shortB c.name
  · rw [e1] at HN hR
    rw [Bool.false_and] at hR
    subst hR
    clear e1 HD HC
    go_enter Tryz.func71, Tryz.ntmps71
    go_wp2_with fail
    refine (HN.out _).mono ?_
    rintro e w1 ⟨rfl, rfl⟩
    go_wp2_with fail
    go_ret
    exact ⟨rfl, hbw0⟩
  · rw [e1] at HN hR
    rw [Bool.true_and] at hR
    cases e2 : dfsB c.dfs
    · rw [e2] at HD hR
      rw [Bool.false_and] at hR
      subst hR
      clear e1 e2 HC
      go_enter Tryz.func71, Tryz.ntmps71
      go_wp2_with fail
      refine (HN.out _).mono ?_
      rintro e w1 ⟨rfl, rfl⟩
      go_wp2_with fail
      refine (HD.out _ X0.bel).mono ?_
      rintro e w2 ⟨rfl, hb⟩
      have hbw := (X0.step hb).bel
      clear hb
      go_wp2_with fail
      go_ret
      exact ⟨rfl, hbw⟩
    · rw [e2] at HD hR
      rw [Bool.true_and] at hR
      rw [← hR] at HC
      clear e1 e2 hR
      go_enter Tryz.func71, Tryz.ntmps71
      go_wp2_with fail
      refine (HN.out _).mono ?_
      rintro e w1 ⟨rfl, rfl⟩
      go_wp2_with fail
      refine (HD.out _ X0.bel).mono ?_
      rintro e w2 ⟨rfl, hb⟩
      have X2 := X0.step hb
      have c1 := X2.c1
      clear hb
      go_wp2_with fail
      refine (HC.out _ X2.bel).mono ?_
      rintro e w3 ⟨rfl, hb⟩
      have hbw := (X2.step hb).bel
      clear hb
      go_wp2_with fail
      go_ret
      exact ⟨rfl, hbw⟩

end Go.Proofs.YtpfbepbmiillbaaGreatDoor.Co
