/- What holding a document to a filter answers, by the program and by the specification, for every right filter and document. -/
import Derived.Test.YtcggkeleaepebaaGreatDoorRowTQ
import Derived.Test.YtcggkeleaepebaaGreatDoorOrdKQ
import Derived.Test.YtcggkeleaepebaaGreatDoorChgVQ
import Derived.Test.YtcggkeleaepebaaGreatDoorTwcIQ
import Derived.WalkMore
import Derived.RangeFuncFrom
import Derived.Deep.RegionHeld3
namespace Go.Proofs.YtcggkeleaepebaaGreatDoor
open Go.RowKit
set_option linter.unusedVariables false

/-- Does a term, does a clause let in a document. -/
def oneL (doc : Val) (t : Trm) : Bool := termL t.op t.p t.c doc
def clauseL (doc : Val) (l : List Trm) : Bool := l.all (oneL doc)
/-- Does a filter let in a document. -/
def filtL (doc : Val) (f : List (List Trm)) : Bool := f.any (clauseL doc)
theorem clause_not (doc : Val) (l : List Trm) : clauseL doc l = !(l.any (fun t => !(oneL doc t))) := by
  unfold clauseL; rw [List.not_any_eq_all_not]; simp
theorem okT_parts (t : Trm) (h : okT t = true) : t.p.size ≤ 300 ∧ okB t.c = true ∧ (1 ≤ t.op ∧ t.op ≤ 10) ∧ (t.op = 7 → t.c.k = 4) := by
  obtain ⟨h1, h2, h3, h4⟩ := termB_parts t.op t.p t.c h
  exact ⟨by omega, h2, h3, h4⟩
/-- One cell in the first new block, three in the second. -/
structure B13 (w W : World) (a x y z : Value) : Prop where
  bel : Below w.heap.size w W
  lt : w.heap.size + 1 < W.heap.size
  c0 : W.cell? ⟨w.heap.size, 0, none⟩ = some a
  d0 : W.cell? ⟨w.heap.size + 1, 0, none⟩ = some x
  d1 : W.cell? ⟨w.heap.size + 1, 1, none⟩ = some y
  d2 : W.cell? ⟨w.heap.size + 1, 2, none⟩ = some z
theorem B13.start (w : World) (a x y z : Value) (T U : TypeId) : B13 w ((w.alloc (.cells #[a] T)).alloc (.cells #[x, y, z] U)) a x y z :=
  ⟨((Below.refl _ _).alloc (Nat.le_refl _) _).alloc (by simp) _, by simp, by simp [go_sem], by simp [go_sem], by simp [go_sem], by simp [go_sem]⟩
theorem B13.step {w W W' : World} {a x y z : Value} (h : B13 w W a x y z) (hb : Below W.heap.size W W') : B13 w W' a x y z :=
  have hl : w.heap.size < W.heap.size := Nat.lt_of_succ_lt h.lt
  ⟨h.bel.trans (hb.mono h.bel.size), Nat.lt_of_lt_of_le h.lt hb.size, (hb.cell hl).trans h.c0, (hb.cell h.lt).trans h.d0, (hb.cell h.lt).trans h.d1, (hb.cell h.lt).trans h.d2⟩
/-- A document lies in a block. -/
structure DocIn (W : World) (b : Nat) (v : Val) : Prop where
  lt : b < W.heap.size
  c0 : W.cell? ⟨b, 0, none⟩ = some (.int .i64 v.k)
  c1 : W.cell? ⟨b, 1, none⟩ = some (.int .i64 v.n)
  c2 : W.cell? ⟨b, 2, none⟩ = some (.string v.t)
theorem DocIn.step {W W' : World} {b : Nat} {v : Val} (h : DocIn W b v) (hb : Below W.heap.size W W') : DocIn W' b v :=
  ⟨Nat.lt_of_lt_of_le h.lt hb.size, (hb.cell h.lt).trans h.c0, (hb.cell h.lt).trans h.c1, (hb.cell h.lt).trans h.c2⟩

set_option maxRecDepth 4000 in
set_option maxHeartbeats 1000000 in
theorem clauseOne_any (b : Nat) (doc : Val) (t : Trm) (w : World) (hd : okB doc = true) (ht : okT t = true) (hI : DocIn w b doc) :
    Calls Tryz.prog 160 #[.agg #[.int .i64 t.op, .string t.p, .int .i64 t.c.k, .int .i64 t.c.n, .string t.c.t], .pointer (some ⟨b, 0, none⟩)] w fun e w' => e = .returned (.bool (!(oneL doc t))) ∧ Below w.heap.size w w' := by
  have X0 := Box5.start w (.int .i64 t.op) (.string t.p) (.int .i64 t.c.k) (.int .i64 t.c.n) (.string t.c.t) 144
  have I0 := hI.step X0.bel
  obtain ⟨p1, p2, p3, p4⟩ := okT_parts t ht
  have HC : Hid (∀ W : World, Calls _ _ _ W _) := fun W => termLets_any t.op t.p t.c doc W p1 p3 p4 p2 hd
  have e1 : termL t.op t.p t.c doc = oneL doc t := rfl
  rw [e1] at HC
  obtain ⟨R, hR⟩ : ∃ R, R = oneL doc t := ⟨_, rfl⟩
  rw [← hR] at HC ⊢
  clear e1
  have a0 := I0.c0
  have a1 := I0.c1
  have a2 := I0.c2
  have hlt := hI.lt
  clear hI I0 hR p1 p2 p3 p4 ht hd
  go_enter Tryz.func160, Tryz.ntmps160
  go_wp2_with fail
  refine (HC.out _).mono ?_
  rintro e w1 ⟨rfl, hb⟩
  have hbw := (X0.step hb).bel
  clear hb
  go_wp2_with fail
  go_ret
  exact ⟨ret_bool (by simp), hbw⟩

set_option maxRecDepth 4000 in
set_option maxHeartbeats 1000000 in
theorem idxTermK (b : Nat) (q : Option Addr) (qc : Nat) (l : List Trm) (P : Trm → Bool) (w : World) (HC : ∀ v ∈ l, ∀ W : World, Below w.heap.size w W → Calls Tryz.prog 160 #[.agg #[.int .i64 v.op, .string v.p, .int .i64 v.c.k, .int .i64 v.c.n, .string v.c.t], .pointer (some ⟨b, 0, none⟩)] W fun e w' => e = .returned (.bool (P v)) ∧ Below W.heap.size W w') (hr : RowT w q l) (hl : l.length ≤ 1048576) :
    Calls Tryz.prog 167 #[.slice q l.length qc, .func (.func 160) #[] #[.pointer (some ⟨b, 0, none⟩)]] w fun e w' => (∃ i : Int, e = .returned (.int .i64 i) ∧ decide (0 ≤ i) = l.any P) ∧ Below w.heap.size w w' := by
  have HR : Hid (RowT _ _ _) := hr
  have HF : Hid _ := HC
  clear hr HC
  go_enter Tryz.func167, Tryz.ntmps167
  go_wp2_with fail
  go_loopw [8] (fun i wr => ∃ k : Nat, k ≤ l.length ∧ i = .int .i64 k ∧ (∀ u ∈ l.take k, P u = false) ∧ Below w.heap.size w wr) (fun i _ => l.length - (intOf i).toNat)
  case atStart => exact ⟨0, Nat.zero_le _, rfl, fun u hu => by simp at hu, Below.refl _ _⟩
  case round =>
    obtain ⟨k, hk, rfl, hall, hbel⟩ := hrel
    have HA : Hid _ := hall
    clear hall
    by_cases hlt : k < l.length
    · rcases HR.out.next hbel with h0 | ⟨g, rfl, R⟩
      · subst h0; simp at hlt
      obtain ⟨x0, x1, x2, x3, x4⟩ := R.cells k hlt
      have hlt2 : (k : Int) < (l.length : Int) := by omega
      have HK0 := HF.out l[k] (List.getElem_mem _) _ hbel
      cases hP : P l[k]
      · rw [hP] at HK0
        have HK : Hid (Calls _ _ _ _ _) := HK0
        have HPK : Hid _ := hP
        clear R hP HK0
        go_wp2_with fail
        refine HK.out.mono ?_
        rintro e w1 ⟨rfl, hb⟩
        have hb1 := hbel.trans (hb.mono hbel.size)
        clear hb HK
        go_wp2_with fail
        go_roundw
        case rel =>
          refine ⟨k + 1, by omega, by go_num, ?_, hb1⟩
          intro u hu
          rw [List.take_succ_eq_append_getElem hlt] at hu
          rcases List.mem_append.mp hu with h | h
          · exact HA.out u h
          · simp at h; subst h; exact HPK.out
        case measure => simp [intOf]; omega
      · rw [hP] at HK0
        have HK : Hid (Calls _ _ _ _ _) := HK0
        have hal : l.any P = true := List.any_eq_true.mpr ⟨l[k], List.getElem_mem _, hP⟩
        have HL : Hid _ := hal
        clear R hP HK0 hal
        go_wp2_with fail
        refine HK.out.mono ?_
        rintro e w1 ⟨rfl, hb⟩
        have hb1 := hbel.trans (hb.mono hbel.size)
        clear hb HK
        go_wp2_with fail
        go_ret
        exact ⟨⟨k, rfl, by rw [HL.out]; exact decide_eq_true (by omega)⟩, hb1⟩
    · have hlt2 : ¬ (k : Int) < (l.length : Int) := by omega
      have hal : l.any P = false := by
        rw [Bool.eq_false_iff]; intro hh
        obtain ⟨u, hu, he⟩ := List.any_eq_true.mp hh
        have := HA.out u (by rw [List.take_of_length_le (by omega)]; exact hu)
        rw [this] at he; cases he
      have HL : Hid _ := hal
      clear hal
      go_wp2_with fail
      go_ret
      exact ⟨⟨-1, rfl, by rw [HL.out]; rfl⟩, hbel⟩
set_option maxRecDepth 4000 in
set_option maxHeartbeats 1000000 in
theorem conTermK (b : Nat) (q : Option Addr) (qc : Nat) (l : List Trm) (P : Trm → Bool) (w : World) (HC : ∀ v ∈ l, ∀ W : World, Below w.heap.size w W → Calls Tryz.prog 160 #[.agg #[.int .i64 v.op, .string v.p, .int .i64 v.c.k, .int .i64 v.c.n, .string v.c.t], .pointer (some ⟨b, 0, none⟩)] W fun e w' => e = .returned (.bool (P v)) ∧ Below W.heap.size W w') (hr : RowT w q l) (hl : l.length ≤ 1048576) :
    Calls Tryz.prog 155 #[.slice q l.length qc, .func (.func 160) #[] #[.pointer (some ⟨b, 0, none⟩)]] w fun e w' => e = .returned (.bool (l.any P)) ∧ Below w.heap.size w w' := by
  have HI : Hid (Calls _ _ _ _ _) := idxTermK b q qc l P w HC hr hl
  clear HC hr
  go_enter Tryz.func155, Tryz.ntmps155
  go_wp2_with fail
  refine HI.out.mono ?_
  rintro e w1 ⟨⟨i, rfl, hi⟩, hb⟩
  have HJ : Hid _ := hi
  clear hi HI
  go_wp2_with fail
  go_ret
  exact ⟨ret_bool HJ.out, hb⟩

set_option maxRecDepth 4000 in
set_option maxHeartbeats 1000000 in
theorem clauseLets_any (p : Option Addr) (cap : Nat) (l : List Trm) (doc : Val) (w : World) (hr : RowT w p l) (hl : l.length ≤ 1048576) (hd : okB doc = true) (ht : ∀ t ∈ l, okT t = true) :
    Calls Tryz.prog 141 #[.agg #[.slice p l.length cap], .agg #[.int .i64 doc.k, .int .i64 doc.n, .string doc.t]] w fun e w' => e = .returned (.bool (clauseL doc l)) ∧ Below w.heap.size w w' := by
  have X0 := B13.start w (.slice p l.length cap) (.int .i64 doc.k) (.int .i64 doc.n) (.string doc.t) 109 82
  have hmf := mk_func
  rw [clause_not]
  have I0 : DocIn ((w.alloc (.cells #[.slice p l.length cap] 109)).alloc (.cells #[.int .i64 doc.k, .int .i64 doc.n, .string doc.t] 82)) (w.heap.size + 1) doc := ⟨X0.lt, X0.d0, X0.d1, X0.d2⟩
  have HI : Hid (Calls _ _ _ _ _) := conTermK (w.heap.size + 1) p cap l (fun t => !(oneL doc t)) _ (fun v hv W hW => clauseOne_any (w.heap.size + 1) doc v W hd (ht v hv) (I0.step hW)) (hr.next X0.bel) hl
  obtain ⟨R, hR⟩ : ∃ R, R = l.any (fun t => !(oneL doc t)) := ⟨_, rfl⟩
  rw [← hR] at HI ⊢
  clear hr ht I0 hR
  go_enter Tryz.func141, Tryz.ntmps141
  go_wp2_with fail
  refine HI.out.mono ?_
  rintro e w1 ⟨rfl, hb⟩
  have hbw := (X0.step hb).bel
  clear HI hb
  go_wp2_with fail
  go_ret
  exact ⟨ret_bool (by simp), hbw⟩

set_option maxRecDepth 4000 in
set_option maxHeartbeats 1000000 in
theorem filterOne_any (b : Nat) (p : Option Addr) (cap : Nat) (l : List Trm) (doc : Val) (w : World) (hr : RowT w p l) (hl : l.length ≤ 1048576) (hd : okB doc = true) (ht : ∀ t ∈ l, okT t = true) (hI : DocIn w b doc) :
    Calls Tryz.prog 140 #[.agg #[.slice p l.length cap], .pointer (some ⟨b, 0, none⟩)] w fun e w' => e = .returned (.bool (clauseL doc l)) ∧ Below w.heap.size w w' := by
  have hb0 : Below w.heap.size w (w.alloc (.cells #[.slice p l.length cap] 109)) := (Below.refl _ _).alloc (Nat.le_refl _) _
  have I0 := hI.step hb0
  have HC : Hid (Calls _ _ _ _ _) := clauseLets_any p cap l doc (w.alloc (.cells #[.slice p l.length cap] 109)) (hr.next hb0) hl hd ht
  have a0 := I0.c0
  have a1 := I0.c1
  have a2 := I0.c2
  have hlt := hI.lt
  clear hr ht hI I0
  go_enter Tryz.func140, Tryz.ntmps140
  go_wp2_with fail
  refine HC.out.mono ?_
  rintro e w1 ⟨rfl, hb⟩
  have hbw := hb0.trans (hb.mono hb0.size)
  clear hb
  go_wp2_with fail
  go_ret
  exact ⟨rfl, hbw⟩

set_option maxRecDepth 4000 in
set_option maxHeartbeats 1000000 in
theorem idxClauseK (b : Nat) (q : Option Addr) (qc : Nat) (l : List (List Trm)) (P : (List Trm) → Bool) (w : World) (HC : ∀ v ∈ l, ∀ (pk : Option Addr) (ck : Nat) (W : World), Below w.heap.size w W → RowT W pk v → Calls Tryz.prog 140 #[.agg #[.slice pk v.length ck], .pointer (some ⟨b, 0, none⟩)] W fun e w' => e = .returned (.bool (P v)) ∧ Below W.heap.size W w') (hr : RowC w q l) (hl : l.length ≤ 1048576) :
    Calls Tryz.prog 154 #[.slice q l.length qc, .func (.func 140) #[] #[.pointer (some ⟨b, 0, none⟩)]] w fun e w' => (∃ i : Int, e = .returned (.int .i64 i) ∧ decide (0 ≤ i) = l.any P) ∧ Below w.heap.size w w' := by
  have HR : Hid (RowC _ _ _) := hr
  have HF : Hid _ := HC
  clear hr HC
  go_enter Tryz.func154, Tryz.ntmps154
  go_wp2_with fail
  go_loopw [8] (fun i wr => ∃ k : Nat, k ≤ l.length ∧ i = .int .i64 k ∧ (∀ u ∈ l.take k, P u = false) ∧ Below w.heap.size w wr) (fun i _ => l.length - (intOf i).toNat)
  case atStart => exact ⟨0, Nat.zero_le _, rfl, fun u hu => by simp at hu, Below.refl _ _⟩
  case round =>
    obtain ⟨k, hk, rfl, hall, hbel⟩ := hrel
    have HA : Hid _ := hall
    clear hall
    by_cases hlt : k < l.length
    · rcases HR.out.next hbel with h0 | ⟨g, rfl, R⟩
      · subst h0; simp at hlt
      obtain ⟨pk, ck, x0, xr⟩ := R.cells k hlt
      have hlt2 : (k : Int) < (l.length : Int) := by omega
      have HK0 := HF.out l[k] (List.getElem_mem _) pk ck _ hbel xr
      cases hP : P l[k]
      · rw [hP] at HK0
        have HK : Hid (Calls _ _ _ _ _) := HK0
        have HPK : Hid _ := hP
        clear R hP HK0 xr
        go_wp2_with fail
        refine HK.out.mono ?_
        rintro e w1 ⟨rfl, hb⟩
        have hb1 := hbel.trans (hb.mono hbel.size)
        clear hb HK
        go_wp2_with fail
        go_roundw
        case rel =>
          refine ⟨k + 1, by omega, by go_num, ?_, hb1⟩
          intro u hu
          rw [List.take_succ_eq_append_getElem hlt] at hu
          rcases List.mem_append.mp hu with h | h
          · exact HA.out u h
          · simp at h; subst h; exact HPK.out
        case measure => simp [intOf]; omega
      · rw [hP] at HK0
        have HK : Hid (Calls _ _ _ _ _) := HK0
        have hal : l.any P = true := List.any_eq_true.mpr ⟨l[k], List.getElem_mem _, hP⟩
        have HL : Hid _ := hal
        clear R hP HK0 hal xr
        go_wp2_with fail
        refine HK.out.mono ?_
        rintro e w1 ⟨rfl, hb⟩
        have hb1 := hbel.trans (hb.mono hbel.size)
        clear hb HK
        go_wp2_with fail
        go_ret
        exact ⟨⟨k, rfl, by rw [HL.out]; exact decide_eq_true (by omega)⟩, hb1⟩
    · have hlt2 : ¬ (k : Int) < (l.length : Int) := by omega
      have hal : l.any P = false := by
        rw [Bool.eq_false_iff]; intro hh
        obtain ⟨u, hu, he⟩ := List.any_eq_true.mp hh
        have := HA.out u (by rw [List.take_of_length_le (by omega)]; exact hu)
        rw [this] at he; cases he
      have HL : Hid _ := hal
      clear hal
      go_wp2_with fail
      go_ret
      exact ⟨⟨-1, rfl, by rw [HL.out]; rfl⟩, hbel⟩
set_option maxRecDepth 4000 in
set_option maxHeartbeats 1000000 in
theorem conClauseK (b : Nat) (q : Option Addr) (qc : Nat) (l : List (List Trm)) (P : (List Trm) → Bool) (w : World) (HC : ∀ v ∈ l, ∀ (pk : Option Addr) (ck : Nat) (W : World), Below w.heap.size w W → RowT W pk v → Calls Tryz.prog 140 #[.agg #[.slice pk v.length ck], .pointer (some ⟨b, 0, none⟩)] W fun e w' => e = .returned (.bool (P v)) ∧ Below W.heap.size W w') (hr : RowC w q l) (hl : l.length ≤ 1048576) :
    Calls Tryz.prog 135 #[.slice q l.length qc, .func (.func 140) #[] #[.pointer (some ⟨b, 0, none⟩)]] w fun e w' => e = .returned (.bool (l.any P)) ∧ Below w.heap.size w w' := by
  have HI : Hid (Calls _ _ _ _ _) := idxClauseK b q qc l P w HC hr hl
  clear HC hr
  go_enter Tryz.func135, Tryz.ntmps135
  go_wp2_with fail
  refine HI.out.mono ?_
  rintro e w1 ⟨⟨i, rfl, hi⟩, hb⟩
  have HJ : Hid _ := hi
  clear hi HI
  go_wp2_with fail
  go_ret
  exact ⟨ret_bool HJ.out, hb⟩

set_option maxRecDepth 4000 in
set_option maxHeartbeats 1000000 in
theorem filterLets_any (p : Option Addr) (cap : Nat) (f : List (List Trm)) (doc : Val) (w : World) (hr : RowC w p f) (hl : f.length ≤ 1048576) (hd : okB doc = true) (ht : ∀ l ∈ f, l.length ≤ 1048576 ∧ ∀ t ∈ l, okT t = true) :
    Calls Tryz.prog 123 #[.agg #[.slice p f.length cap], .agg #[.int .i64 doc.k, .int .i64 doc.n, .string doc.t]] w fun e w' => e = .returned (.bool (filtL doc f)) ∧ Below w.heap.size w w' := by
  have X0 := B13.start w (.slice p f.length cap) (.int .i64 doc.k) (.int .i64 doc.n) (.string doc.t) 78 82
  have hmf := mk_func
  unfold filtL
  have I0 : DocIn ((w.alloc (.cells #[.slice p f.length cap] 78)).alloc (.cells #[.int .i64 doc.k, .int .i64 doc.n, .string doc.t] 82)) (w.heap.size + 1) doc := ⟨X0.lt, X0.d0, X0.d1, X0.d2⟩
  have HI : Hid (Calls _ _ _ _ _) := conClauseK (w.heap.size + 1) p cap f (clauseL doc) _ (fun v hv pk ck W hW hT => filterOne_any (w.heap.size + 1) pk ck v doc W hT (ht v hv).1 hd (ht v hv).2 (I0.step hW)) (hr.next X0.bel) hl
  obtain ⟨R, hR⟩ : ∃ R, R = f.any (clauseL doc) := ⟨_, rfl⟩
  rw [← hR] at HI ⊢
  clear hr ht I0 hR
  go_enter Tryz.func123, Tryz.ntmps123
  go_wp2_with fail
  refine HI.out.mono ?_
  rintro e w1 ⟨rfl, hb⟩
  have hbw := (X0.step hb).bel
  clear HI hb
  go_wp2_with fail
  go_ret
  exact ⟨rfl, hbw⟩

set_option maxRecDepth 4000 in
set_option maxHeartbeats 2000000 in
theorem l03Clause_any (p : Option Addr) (cap : Nat) (l : List Trm) (doc : Val) (w : World) (hr : RowT w p l) (hl : l.length ≤ 1048576) (hd : okB doc = true) (ht : ∀ t ∈ l, okT t = true) :
    Calls Tryz.prog 116 #[.agg #[.slice p l.length cap], .agg #[.int .i64 doc.k, .int .i64 doc.n, .string doc.t]] w fun e w' => e = .returned (.bool (clauseL doc l)) ∧ Below w.heap.size w w' := by
  have X0 := B13.start w (.slice p l.length cap) (.int .i64 doc.k) (.int .i64 doc.n) (.string doc.t) 109 82
  obtain ⟨RR, hRR⟩ : ∃ RR, RR = clauseL doc l := ⟨_, rfl⟩
  rw [← hRR]
  have HRR : Hid _ := hRR
  have HT : Hid _ := ht
  have HR : Hid (RowT _ _ _) := hr.next X0.bel
  have HD : Hid (okB doc = true) := hd
  clear hr ht hd hRR
  go_enter Tryz.func116, Tryz.ntmps116
  go_wp2_with fail
  generalize (w.alloc (.cells #[.slice p l.length cap] 109)).alloc (.cells #[.int .i64 doc.k, .int .i64 doc.n, .string doc.t] 82) = W0 at X0 HR ⊢
  go_loopw [5] (fun i wr => ∃ k : Nat, k ≤ l.length ∧ i = .int .i64 k ∧ (∀ u ∈ l.take k, oneL doc u = true) ∧ Below W0.heap.size W0 wr) (fun i _ => l.length - (intOf i).toNat)
  case atStart => exact ⟨0, Nat.zero_le _, rfl, (fun u hu => by simp at hu), Below.refl _ _⟩
  case round =>
    obtain ⟨k, hk, rfl, hall, hbel⟩ := hrel
    have HA : Hid _ := hall
    have Y := X0.step hbel
    have hbw := Y.bel
    have y0 := Y.c0
    have hl2 := Y.lt
    have hl1 : w.heap.size < wr.heap.size := Nat.lt_of_succ_lt hl2
    clear hall
    by_cases hlt : k < l.length
    · rcases HR.out.next hbel with h0 | ⟨g, rfl, R⟩
      · subst h0; simp at hlt
      have hgl := R.lt
      have hlt2 : (k : Int) < (l.length : Int) := by omega
      obtain ⟨x0, x1, x2, x3, x4⟩ := R.cells k hlt
      have z0 : ∀ u : Under wr, u.x.cell? ⟨w.heap.size, 0, none⟩ = some (.slice (some ⟨g, 0, none⟩) l.length cap) := fun u => (u.h.cell hl1).trans y0
      have d0 : ∀ u : Under wr, u.x.cell? ⟨w.heap.size + 1, 0, none⟩ = some (.int .i64 doc.k) := fun u => (u.h.cell hl2).trans Y.d0
      have d1 : ∀ u : Under wr, u.x.cell? ⟨w.heap.size + 1, 1, none⟩ = some (.int .i64 doc.n) := fun u => (u.h.cell hl2).trans Y.d1
      have d2 : ∀ u : Under wr, u.x.cell? ⟨w.heap.size + 1, 2, none⟩ = some (.string doc.t) := fun u => (u.h.cell hl2).trans Y.d2
      have q0 : ∀ u : Under wr, u.x.cell? ⟨g, k * 5, none⟩ = some (.int .i64 l[k].op) := fun u => (u.h.cell hgl).trans x0
      have q1 : ∀ u : Under wr, u.x.cell? ⟨g, k * 5 + 1, none⟩ = some (.string l[k].p) := fun u => (u.h.cell hgl).trans x1
      have q2 : ∀ u : Under wr, u.x.cell? ⟨g, k * 5 + 2, none⟩ = some (.int .i64 l[k].c.k) := fun u => (u.h.cell hgl).trans x2
      have q3 : ∀ u : Under wr, u.x.cell? ⟨g, k * 5 + 3, none⟩ = some (.int .i64 l[k].c.n) := fun u => (u.h.cell hgl).trans x3
      have q4 : ∀ u : Under wr, u.x.cell? ⟨g, k * 5 + 4, none⟩ = some (.string l[k].c.t) := fun u => (u.h.cell hgl).trans x4
      have hnu : Nonempty (Under wr) := ⟨⟨wr, Below.refl _ _⟩⟩
      have HC0 : ∀ u : Under wr, Calls Tryz.prog 132 #[.agg #[.int .i64 l[k].op, .string l[k].p, .int .i64 l[k].c.k, .int .i64 l[k].c.n, .string l[k].c.t], .agg #[.int .i64 doc.k, .int .i64 doc.n, .string doc.t]] u.x fun e w' => e = .returned (.bool (oneL doc l[k])) ∧ Below u.x.heap.size u.x w' := fun u => by
        obtain ⟨p1, p2, p3, p4⟩ := okT_parts l[k] (HT.out l[k] (List.getElem_mem _))
        exact l03Term_any l[k].op l[k].p l[k].c doc u.x p1 p3 p4 p2 HD.out
      clear R Y x0 x1 x2 x3 x4
      cases hP : oneL doc l[k]
      · rw [hP] at HC0
        have HCU : Hid _ := HC0
        have hRf : RR = false := by
          rw [HRR.out, Bool.eq_false_iff]; intro hh
          have := List.all_eq_true.mp hh l[k] (List.getElem_mem _)
          rw [hP] at this; cases this
        clear HC0 hP HRR
        subst hRf
        go_wp2_with fail
        refine wp_region_under (by kernel_rfl) (by kernel_rfl) ?_
        repeat (go_big_quiet_step ((go_at_call 132; exact calls_under _ (HCU.out _))))
        refine wpQuiet_nil ?_
        rintro _ ⟨u, rfl⟩
        have hbu := hbw.trans (u.h.mono hbw.size)
        clear z0 d0 d1 d2 hnu
        go_wp2_with fail
        go_ret
        exact ⟨rfl, hbu⟩
      · rw [hP] at HC0
        have HCU : Hid _ := HC0
        have HPK : Hid _ := hP
        clear HC0 hP
        go_wp2_with fail
        refine wp_region_under (by kernel_rfl) (by kernel_rfl) ?_
        repeat (go_big_quiet_step ((go_at_call 132; exact calls_under _ (HCU.out _))))
        refine wpQuiet_nil ?_
        rintro _ ⟨u, rfl⟩
        have hbu := hbel.trans (u.h.mono hbel.size)
        clear z0 d0 d1 d2 hnu
        go_wp2_with fail
        go_roundw
        case rel =>
          refine ⟨k + 1, by omega, by go_num, ?_, hbu⟩
          intro u hu
          rw [List.take_succ_eq_append_getElem hlt] at hu
          rcases List.mem_append.mp hu with h | h
          · exact HA.out u h
          · simp at h; subst h; exact HPK.out
        case measure => simp [intOf]; omega
    · have hlt2 : ¬ (k : Int) < (l.length : Int) := by omega
      have hRt : RR = true := by
        rw [HRR.out]
        exact List.all_eq_true.mpr (fun u hu => HA.out u (by rw [List.take_of_length_le (by omega)]; exact hu))
      clear HRR Y
      subst hRt
      go_wp2_with fail
      go_ret
      exact ⟨rfl, hbw⟩

set_option maxRecDepth 4000 in
set_option maxHeartbeats 2000000 in
theorem l03Matches_any (p : Option Addr) (cap : Nat) (l : List (List Trm)) (doc : Val) (w : World) (hr : RowC w p l) (hl : l.length ≤ 1048576) (hd : okB doc = true) (ht : ∀ t ∈ l, t.length ≤ 1048576 ∧ ∀ v ∈ t, okT v = true) :
    Calls Tryz.prog 98 #[.agg #[.slice p l.length cap], .agg #[.int .i64 doc.k, .int .i64 doc.n, .string doc.t]] w fun e w' => e = .returned (.bool (filtL doc l)) ∧ Below w.heap.size w w' := by
  have X0 := B13.start w (.slice p l.length cap) (.int .i64 doc.k) (.int .i64 doc.n) (.string doc.t) 78 82
  obtain ⟨RR, hRR⟩ : ∃ RR, RR = filtL doc l := ⟨_, rfl⟩
  rw [← hRR]
  have HRR : Hid _ := hRR
  have HT : Hid _ := ht
  have HR : Hid (RowC _ _ _) := hr.next X0.bel
  have HD : Hid (okB doc = true) := hd
  clear hr ht hd hRR
  go_enter Tryz.func98, Tryz.ntmps98
  go_wp2_with fail
  generalize (w.alloc (.cells #[.slice p l.length cap] 78)).alloc (.cells #[.int .i64 doc.k, .int .i64 doc.n, .string doc.t] 82) = W0 at X0 HR ⊢
  go_loopw [5] (fun i wr => ∃ k : Nat, k ≤ l.length ∧ i = .int .i64 k ∧ (∀ u ∈ l.take k, clauseL doc u = false) ∧ Below W0.heap.size W0 wr) (fun i _ => l.length - (intOf i).toNat)
  case atStart => exact ⟨0, Nat.zero_le _, rfl, (fun u hu => by simp at hu), Below.refl _ _⟩
  case round =>
    obtain ⟨k, hk, rfl, hall, hbel⟩ := hrel
    have HA : Hid _ := hall
    have Y := X0.step hbel
    have hbw := Y.bel
    have y0 := Y.c0
    have hl2 := Y.lt
    have hl1 : w.heap.size < wr.heap.size := Nat.lt_of_succ_lt hl2
    clear hall
    by_cases hlt : k < l.length
    · rcases HR.out.next hbel with h0 | ⟨g, rfl, R⟩
      · subst h0; simp at hlt
      have hgl := R.lt
      have hlt2 : (k : Int) < (l.length : Int) := by omega
      obtain ⟨pk, ck, x0, xr⟩ := R.cells k hlt
      have z0 : ∀ u : Under wr, u.x.cell? ⟨w.heap.size, 0, none⟩ = some (.slice (some ⟨g, 0, none⟩) l.length cap) := fun u => (u.h.cell hl1).trans y0
      have d0 : ∀ u : Under wr, u.x.cell? ⟨w.heap.size + 1, 0, none⟩ = some (.int .i64 doc.k) := fun u => (u.h.cell hl2).trans Y.d0
      have d1 : ∀ u : Under wr, u.x.cell? ⟨w.heap.size + 1, 1, none⟩ = some (.int .i64 doc.n) := fun u => (u.h.cell hl2).trans Y.d1
      have d2 : ∀ u : Under wr, u.x.cell? ⟨w.heap.size + 1, 2, none⟩ = some (.string doc.t) := fun u => (u.h.cell hl2).trans Y.d2
      have q0 : ∀ u : Under wr, u.x.cell? ⟨g, k, none⟩ = some (.slice pk l[k].length ck) := fun u => (u.h.cell hgl).trans x0
      have hnu : Nonempty (Under wr) := ⟨⟨wr, Below.refl _ _⟩⟩
      have HC0 : ∀ u : Under wr, Calls Tryz.prog 116 #[.agg #[.slice pk l[k].length ck], .agg #[.int .i64 doc.k, .int .i64 doc.n, .string doc.t]] u.x fun e w' => e = .returned (.bool (clauseL doc l[k])) ∧ Below u.x.heap.size u.x w' := fun u => l03Clause_any pk ck l[k] doc u.x (xr.next u.h) (HT.out l[k] (List.getElem_mem _)).1 HD.out (HT.out l[k] (List.getElem_mem _)).2
      clear R Y x0 xr
      cases hP : clauseL doc l[k]
      · rw [hP] at HC0
        have HCU : Hid _ := HC0
        have HPK : Hid _ := hP
        clear HC0 hP
        go_wp2_with fail
        refine wp_region_under (by kernel_rfl) (by kernel_rfl) ?_
        repeat (go_big_quiet_step ((go_at_call 116; exact calls_under _ (HCU.out _))))
        refine wpQuiet_nil ?_
        rintro _ ⟨u, rfl⟩
        have hbu := hbel.trans (u.h.mono hbel.size)
        clear z0 d0 d1 d2 hnu
        go_wp2_with fail
        go_roundw
        case rel =>
          refine ⟨k + 1, by omega, by go_num, ?_, hbu⟩
          intro u hu
          rw [List.take_succ_eq_append_getElem hlt] at hu
          rcases List.mem_append.mp hu with h | h
          · exact HA.out u h
          · simp at h; subst h; exact HPK.out
        case measure => simp [intOf]; omega
      · rw [hP] at HC0
        have HCU : Hid _ := HC0
        have hRt : RR = true := by rw [HRR.out]; exact List.any_eq_true.mpr ⟨l[k], List.getElem_mem _, hP⟩
        clear HC0 hP HRR
        subst hRt
        go_wp2_with fail
        refine wp_region_under (by kernel_rfl) (by kernel_rfl) ?_
        repeat (go_big_quiet_step ((go_at_call 116; exact calls_under _ (HCU.out _))))
        refine wpQuiet_nil ?_
        rintro _ ⟨u, rfl⟩
        have hbu := hbw.trans (u.h.mono hbw.size)
        clear z0 d0 d1 d2 hnu
        go_wp2_with fail
        go_ret
        exact ⟨rfl, hbu⟩
    · have hlt2 : ¬ (k : Int) < (l.length : Int) := by omega
      have hRf : RR = false := by
        rw [HRR.out, Bool.eq_false_iff]; intro hh
        obtain ⟨u, hu, he⟩ := List.any_eq_true.mp hh
        have := HA.out u (by rw [List.take_of_length_le (by omega)]; exact hu)
        rw [this] at he; cases he
      clear HRR Y
      subst hRf
      go_wp2_with fail
      go_ret
      exact ⟨rfl, hbw⟩

/-- What holding a document to a filter comes to. -/
def matchF (doc : Val) (f : List (List Trm)) : Bool × Int := if filtB f = true ∧ docB doc = true then (filtL doc f, 0) else (false, 1)
end Go.Proofs.YtcggkeleaepebaaGreatDoor

/- Whether a read hangs on a change: what both sides answer. -/
namespace Go.Proofs.YtcggkeleaepebaaGreatDoor.Ce
open Go.RowKit Tr Co Rea
set_option linter.unusedVariables false

/-- Whether a read hangs on a change. -/
def hitB (x : Rdg) (y : Cgr) : Bool := (x.coll.toList == y.wr.coll.toList) && ((y.was && filtL y.bef x.f) || (!y.wr.gone && filtL y.wr.doc x.f))
/-- What a right filter's terms are. -/
theorem filtB_parts (f : List (List Trm)) (h : filtB f = true) : f.length ≤ 1048576 ∧ ∀ l ∈ f, l.length ≤ 1048576 ∧ ∀ t ∈ l, okT t = true := by
  unfold filtB at h
  simp only [Bool.and_eq_true, decide_eq_true_eq, List.all_eq_true] at h
  refine ⟨by omega, fun l hl => ?_⟩
  have := h.2 l hl
  unfold clauseB at this
  simp only [Bool.and_eq_true, decide_eq_true_eq, List.all_eq_true] at this
  exact ⟨by omega, this.2⟩
theorem okCg_parts (y : Cgr) (h : okCg y = true) : (y.was = true → okB y.bef = true) ∧ (y.wr.gone = false → okB y.wr.doc = true) := by
  unfold okCg writeB at h
  simp only [Bool.and_eq_true] at h
  obtain ⟨⟨-, -, h1⟩, h2⟩ := h
  constructor
  · intro hw
    rw [hw] at h2
    simp only [stateB, docB, Bool.not_true, Bool.false_eq_true, if_false, Bool.and_eq_true] at h2
    exact h2.1.2
  · intro hg
    rw [hg] at h1
    simp only [stateB, docB, Bool.false_eq_true, if_false, Bool.and_eq_true] at h1
    exact h1.1.2
/-- The two boxes, as later worlds have them. -/
structure BxH (w W : World) (v g0 g1 g2 g3 g4 : Value) : Prop where
  bel : Below w.heap.size w W
  lt : w.heap.size + 1 < W.heap.size
  c1 : W.cell? ⟨w.heap.size, 1, none⟩ = some v
  d2 : W.cell? ⟨w.heap.size + 1, 2, none⟩ = some g0
  d3 : W.cell? ⟨w.heap.size + 1, 3, none⟩ = some g1
  d4 : W.cell? ⟨w.heap.size + 1, 4, none⟩ = some g2
  d5 : W.cell? ⟨w.heap.size + 1, 5, none⟩ = some g3
theorem BxH.step {w W W' : World} {v g0 g1 g2 g3 g4 : Value} (h : BxH w W v g0 g1 g2 g3 g4) (hb : Below W.heap.size W W') : BxH w W' v g0 g1 g2 g3 g4 :=
  ⟨h.bel.trans (hb.mono h.bel.size), Nat.lt_of_lt_of_le h.lt hb.size, (hb.cell (Nat.lt_of_succ_lt h.lt)).trans h.c1, (hb.cell h.lt).trans h.d2, (hb.cell h.lt).trans h.d3, (hb.cell h.lt).trans h.d4, (hb.cell h.lt).trans h.d5⟩
theorem BxH.start (w : World) (u v a0 a1 a2 a3 a4 a5 a6 a7 a8 a9 : Value) (T U : TypeId) : BxH w ((w.alloc (.cells #[u, v] T)).alloc (.cells #[a0, a1, a2, a3, a4, a5, a6, a7, a8, a9] U)) v a2 a3 a4 a5 a5 :=
  ⟨((Below.refl _ _).alloc (Nat.le_refl _) _).alloc (by simp) _, by simp, by simp [go_sem], by simp [go_sem], by simp [go_sem], by simp [go_sem], by simp [go_sem]⟩

set_option maxRecDepth 4000 in
set_option maxHeartbeats 4000000 in
theorem hangsOn_core (s c : ByteArray) (p : Option Addr) (cap : Nat) (f : List (List Trm)) (i : Int) (gone was : Bool) (d b : Val) (w : World) (hr : RowC w p f) (hl : f.length ≤ 1048576) (ht : ∀ l ∈ f, l.length ≤ 1048576 ∧ ∀ t ∈ l, okT t = true) (hb : was = true → okB b = true) (hd : gone = false → okB d = true) :
    Calls Tryz.prog 106 #[.agg #[.string s, .slice p f.length cap], .agg #[.string c, .int .i64 i, .bool gone, .int .i64 d.k, .int .i64 d.n, .string d.t, .int .i64 b.k, .int .i64 b.n, .string b.t, .bool was]] w fun e w' => e = .returned (.bool ((s.toList == c.toList) && ((was && filtL b f) || (!gone && filtL d f)))) ∧ Below w.heap.size w w' := by
  have X0 := BxH.start w (.string s) (.slice p f.length cap) (.string c) (.int .i64 i) (.bool gone) (.int .i64 d.k) (.int .i64 d.n) (.string d.t) (.int .i64 b.k) (.int .i64 b.n) (.string b.t) (.bool was) 80 86
  have HB : Hid (was = true → ∀ W : World, Below w.heap.size w W → Calls _ _ _ W _) := fun h W hW => filterLets_any p cap f b W (hr.next hW) hl (hb h) ht
  have HD : Hid (gone = false → ∀ W : World, Below w.heap.size w W → Calls _ _ _ W _) := fun h W hW => filterLets_any p cap f d W (hr.next hW) hl (hd h) ht
  clear hr ht hb hd
  obtain ⟨R1, hR1⟩ : ∃ R1, R1 = filtL b f := ⟨_, rfl⟩
  obtain ⟨R2, hR2⟩ : ∃ R2, R2 = filtL d f := ⟨_, rfl⟩
  rw [← hR1] at HB ⊢
  rw [← hR2] at HD ⊢
  clear hR1 hR2
  cases e1 : (s.toList == c.toList)
  · clear HB HD
    have hbw := X0.bel
    clear X0
    go_enter Tryz.func106, Tryz.ntmps106
    go_wp2_with fail
    go_ret
    exact ⟨rfl, hbw⟩
  cases was
  · clear HB
    cases gone
    · have HE : Hid (∀ W : World, Below w.heap.size w W → Calls _ _ _ W _) := HD.out rfl
      clear HD
      go_enter Tryz.func106, Tryz.ntmps106
      go_wp2_with fail
      refine (HE.out _ X0.bel).mono ?_
      rintro e w1 ⟨rfl, hb⟩
      have hbw := (X0.step hb).bel
      clear hb
      cases R2
      all_goals
        go_wp2_with fail
        go_ret
        exact ⟨rfl, hbw⟩
    · clear HD
      have hbw := X0.bel
      go_enter Tryz.func106, Tryz.ntmps106
      go_wp2_with fail
      go_ret
      exact ⟨rfl, hbw⟩
  · have HF : Hid (∀ W : World, Below w.heap.size w W → Calls _ _ _ W _) := HB.out rfl
    clear HB
    cases R1
    · cases gone
      · have HE : Hid (∀ W : World, Below w.heap.size w W → Calls _ _ _ W _) := HD.out rfl
        clear HD
        go_enter Tryz.func106, Tryz.ntmps106
        go_wp2_with fail
        refine (HF.out _ X0.bel).mono ?_
        rintro e w1 ⟨rfl, hb⟩
        have X1 := X0.step hb
        have c1 := X1.c1
        have d2 := X1.d2
        have d3 := X1.d3
        have d4 := X1.d4
        have d5 := X1.d5
        have hbw := X1.bel
        clear hb X0
        go_wp2_with fail
        refine (HE.out _ hbw).mono ?_
        rintro e w2 ⟨rfl, hb⟩
        have hbw2 := (X1.step hb).bel
        clear hb
        cases R2
        all_goals
          go_wp2_with fail
          go_ret
          exact ⟨rfl, hbw2⟩
      · clear HD
        go_enter Tryz.func106, Tryz.ntmps106
        go_wp2_with fail
        refine (HF.out _ X0.bel).mono ?_
        rintro e w1 ⟨rfl, hb⟩
        have X1 := X0.step hb
        have d2 := X1.d2
        have hbw := X1.bel
        clear hb X0
        go_wp2_with fail
        go_ret
        exact ⟨rfl, hbw⟩
    · clear HD
      go_enter Tryz.func106, Tryz.ntmps106
      go_wp2_with fail
      refine (HF.out _ X0.bel).mono ?_
      rintro e w1 ⟨rfl, hb⟩
      have hbw := (X0.step hb).bel
      clear hb X0
      go_wp2_with fail
      go_ret
      exact ⟨rfl, hbw⟩
theorem hangsOn_any (x : Rdg) (y : Cgr) (p : Option Addr) (cap : Nat) (w : World) (hr : RowC w p x.f) (hx : okR x = true) (hy : okCg y = true) :
    Calls Tryz.prog 106 #[.agg #[.string x.coll, .slice p x.f.length cap], .agg #[.string y.wr.coll, .int .i64 y.wr.id, .bool y.wr.gone, .int .i64 y.wr.doc.k, .int .i64 y.wr.doc.n, .string y.wr.doc.t, .int .i64 y.bef.k, .int .i64 y.bef.n, .string y.bef.t, .bool y.was]] w fun e w' => e = .returned (.bool (hitB x y)) ∧ Below w.heap.size w w' := by
  have h1 : filtB x.f = true := by
    unfold okR readB at hx
    simp only [Bool.and_eq_true] at hx
    exact hx.2
  have h2 := filtB_parts x.f h1
  have h3 := okCg_parts y hy
  exact hangsOn_core x.coll y.wr.coll p cap x.f y.wr.id y.wr.gone y.was y.wr.doc y.bef w hr h2.1 h2.2 h3.1 h3.2

set_option maxRecDepth 4000 in
set_option maxHeartbeats 4000000 in
theorem l09Hit_core (s c : ByteArray) (p : Option Addr) (cap : Nat) (f : List (List Trm)) (i : Int) (gone was : Bool) (d b : Val) (w : World) (hr : RowC w p f) (hl : f.length ≤ 1048576) (ht : ∀ l ∈ f, l.length ≤ 1048576 ∧ ∀ t ∈ l, okT t = true) (hb : was = true → okB b = true) (hd : gone = false → okB d = true) :
    Calls Tryz.prog 71 #[.agg #[.string s, .slice p f.length cap], .agg #[.string c, .int .i64 i, .bool gone, .int .i64 d.k, .int .i64 d.n, .string d.t, .int .i64 b.k, .int .i64 b.n, .string b.t, .bool was]] w fun e w' => e = .returned (.bool ((s.toList == c.toList) && ((was && filtL b f) || (!gone && filtL d f)))) ∧ Below w.heap.size w w' := by
  have X0 := BxH.start w (.string s) (.slice p f.length cap) (.string c) (.int .i64 i) (.bool gone) (.int .i64 d.k) (.int .i64 d.n) (.string d.t) (.int .i64 b.k) (.int .i64 b.n) (.string b.t) (.bool was) 80 86
  have HB : Hid (was = true → ∀ W : World, Below w.heap.size w W → Calls _ _ _ W _) := fun h W hW => l03Matches_any p cap f b W (hr.next hW) hl (hb h) ht
  have HD : Hid (gone = false → ∀ W : World, Below w.heap.size w W → Calls _ _ _ W _) := fun h W hW => l03Matches_any p cap f d W (hr.next hW) hl (hd h) ht
  clear hr ht hb hd
  obtain ⟨R1, hR1⟩ : ∃ R1, R1 = filtL b f := ⟨_, rfl⟩
  obtain ⟨R2, hR2⟩ : ∃ R2, R2 = filtL d f := ⟨_, rfl⟩
  rw [← hR1] at HB ⊢
  rw [← hR2] at HD ⊢
  clear hR1 hR2
  cases e1 : (s.toList == c.toList)
  · clear HB HD
    have hbw := X0.bel
    clear X0
    go_enter Tryz.func71, Tryz.ntmps71
    go_wp2_with fail
    go_ret
    exact ⟨rfl, hbw⟩
  cases was
  · clear HB
    cases gone
    · have HE : Hid (∀ W : World, Below w.heap.size w W → Calls _ _ _ W _) := HD.out rfl
      clear HD
      go_enter Tryz.func71, Tryz.ntmps71
      go_wp2_with fail
      refine (HE.out _ X0.bel).mono ?_
      rintro e w1 ⟨rfl, hb⟩
      have hbw := (X0.step hb).bel
      clear hb
      cases R2
      all_goals
        go_wp2_with fail
        go_ret
        exact ⟨rfl, hbw⟩
    · clear HD
      have hbw := X0.bel
      go_enter Tryz.func71, Tryz.ntmps71
      go_wp2_with fail
      go_ret
      exact ⟨rfl, hbw⟩
  · have HF : Hid (∀ W : World, Below w.heap.size w W → Calls _ _ _ W _) := HB.out rfl
    clear HB
    cases R1
    · cases gone
      · have HE : Hid (∀ W : World, Below w.heap.size w W → Calls _ _ _ W _) := HD.out rfl
        clear HD
        go_enter Tryz.func71, Tryz.ntmps71
        go_wp2_with fail
        refine (HF.out _ X0.bel).mono ?_
        rintro e w1 ⟨rfl, hb⟩
        have X1 := X0.step hb
        have c1 := X1.c1
        have d2 := X1.d2
        have d3 := X1.d3
        have d4 := X1.d4
        have d5 := X1.d5
        have hbw := X1.bel
        clear hb X0
        go_wp2_with fail
        refine (HE.out _ hbw).mono ?_
        rintro e w2 ⟨rfl, hb⟩
        have hbw2 := (X1.step hb).bel
        clear hb
        cases R2
        all_goals
          go_wp2_with fail
          go_ret
          exact ⟨rfl, hbw2⟩
      · clear HD
        go_enter Tryz.func71, Tryz.ntmps71
        go_wp2_with fail
        refine (HF.out _ X0.bel).mono ?_
        rintro e w1 ⟨rfl, hb⟩
        have X1 := X0.step hb
        have d2 := X1.d2
        have hbw := X1.bel
        clear hb X0
        go_wp2_with fail
        go_ret
        exact ⟨rfl, hbw⟩
    · clear HD
      go_enter Tryz.func71, Tryz.ntmps71
      go_wp2_with fail
      refine (HF.out _ X0.bel).mono ?_
      rintro e w1 ⟨rfl, hb⟩
      have hbw := (X0.step hb).bel
      clear hb X0
      go_wp2_with fail
      go_ret
      exact ⟨rfl, hbw⟩
theorem l09Hit_any (x : Rdg) (y : Cgr) (p : Option Addr) (cap : Nat) (w : World) (hr : RowC w p x.f) (hx : okR x = true) (hy : okCg y = true) :
    Calls Tryz.prog 71 #[.agg #[.string x.coll, .slice p x.f.length cap], .agg #[.string y.wr.coll, .int .i64 y.wr.id, .bool y.wr.gone, .int .i64 y.wr.doc.k, .int .i64 y.wr.doc.n, .string y.wr.doc.t, .int .i64 y.bef.k, .int .i64 y.bef.n, .string y.bef.t, .bool y.was]] w fun e w' => e = .returned (.bool (hitB x y)) ∧ Below w.heap.size w w' := by
  have h1 : filtB x.f = true := by
    unfold okR readB at hx
    simp only [Bool.and_eq_true] at hx
    exact hx.2
  have h2 := filtB_parts x.f h1
  have h3 := okCg_parts y hy
  exact l09Hit_core x.coll y.wr.coll p cap x.f y.wr.id y.wr.gone y.was y.wr.doc y.bef w hr h2.1 h2.2 h3.1 h3.2

end Go.Proofs.YtcggkeleaepebaaGreatDoor.Ce

/- The places of the pairs that are bound, in their order. -/
namespace Go.Proofs.YtcggkeleaepebaaGreatDoor.Ce
open Go.RowKit Go.Shelf Tr Co Rea
set_option linter.unusedVariables false

/-- The bound pairs ahead of (k, q), in their order. -/
def upTo (m : Nat) (P : Nat → Nat → Bool) (k q : Nat) : List (Nat × Nat) :=
  (List.range k).flatMap (fun i => ((List.range m).filter (P i)).map (fun j => (i, j))) ++ ((List.range q).filter (P k)).map (fun j => (k, j))
theorem upTo_zero (m : Nat) (P : Nat → Nat → Bool) : upTo m P 0 0 = [] := by simp [upTo]
theorem upTo_next (m : Nat) (P : Nat → Nat → Bool) (k q : Nat) (h : P k q = false) : upTo m P k (q + 1) = upTo m P k q := by
  simp [upTo, List.range_succ, List.filter_append, h]
theorem upTo_add (m : Nat) (P : Nat → Nat → Bool) (k q : Nat) (h : P k q = true) : upTo m P k (q + 1) = upTo m P k q ++ [(k, q)] := by
  simp [upTo, List.range_succ, List.filter_append, h]
theorem upTo_turn (m : Nat) (P : Nat → Nat → Bool) (k : Nat) : upTo m P (k + 1) 0 = upTo m P k m := by
  simp [upTo, List.range_succ, List.flatMap_append]
theorem upTo_length (m : Nat) (P : Nat → Nat → Bool) : ∀ k q, (upTo m P k q).length ≤ k * m + q
  | k, q + 1 => by
    have := upTo_length m P k q
    cases h : P k q
    · rw [upTo_next m P k q h]; omega
    · rw [upTo_add m P k q h, List.length_append]; simp; omega
  | k + 1, 0 => by
    have := upTo_length m P k m
    rw [upTo_turn, Nat.add_mul]; omega
  | 0, 0 => by rw [upTo_zero]; simp
theorem upTo_mem (m : Nat) (P : Nat → Nat → Bool) (k q : Nat) (x : Nat × Nat) : x ∈ upTo m P k q ↔ ((x.1 < k ∧ x.2 < m) ∨ (x.1 = k ∧ x.2 < q)) ∧ P x.1 x.2 = true := by
  obtain ⟨a, b⟩ := x
  simp only [upTo, List.mem_append, List.mem_flatMap, List.mem_map, List.mem_filter, List.mem_range, Prod.mk.injEq]
  constructor
  · rintro (⟨i, hi, j, ⟨hj, hP⟩, rfl, rfl⟩ | ⟨j, ⟨hj, hP⟩, rfl, rfl⟩)
    · exact ⟨.inl ⟨hi, hj⟩, hP⟩
    · exact ⟨.inr ⟨rfl, hj⟩, hP⟩
  · rintro ⟨⟨h1, h2⟩ | ⟨rfl, h2⟩, hP⟩
    · exact .inl ⟨a, h1, b, ⟨h2, hP⟩, rfl, rfl⟩
    · exact .inr ⟨b, ⟨h2, hP⟩, rfl, rfl⟩
theorem upTo_room (n m : Nat) (P : Nat → Nat → Bool) (k q : Nat) (hk : k < n) (hq : q < m) : (upTo m P k q).length < n * m := by
  have h1 := upTo_length m P k q
  have h2 : (k + 1) * m ≤ n * m := Nat.mul_le_mul_right _ hk
  rw [Nat.add_mul] at h2
  omega
/-- A pair that is bound. -/
def Gd (n m : Nat) (P : Nat → Nat → Bool) (x : Nat × Nat) : Prop := x.1 < n ∧ x.2 < m ∧ P x.1 x.2 = true
theorem upTo_gd (n m : Nat) (P : Nat → Nat → Bool) (k q : Nat) (hk : k < n) (hq : q < m) (h : P k q = true) : ∀ x ∈ upTo m P k q ++ [(k, q)], Gd n m P x := by
  intro x hx
  rw [← upTo_add m P k q h, upTo_mem] at hx
  obtain ⟨⟨h1, h2⟩ | ⟨h1, h2⟩, h3⟩ := hx
  · exact ⟨by omega, h2, h3⟩
  · exact ⟨by omega, by omega, h3⟩
theorem readT_kc {W W' : World} {g : Nat} {l : List Trm} (h : ReadT W g l) (hk : Kc W W') : ReadT W' g l :=
  ⟨Nat.lt_of_lt_of_le h.lt hk.size, fun i hi => by
    obtain ⟨x0, x1, x2, x3, x4⟩ := h.cells i hi
    exact ⟨hk.cell _ _ _ x0, hk.cell _ _ _ x1, hk.cell _ _ _ x2, hk.cell _ _ _ x3, hk.cell _ _ _ x4⟩⟩
theorem madeC_kc {W W' : World} {b g : Nat} {l : List (List Trm)} (h : MadeC W b g l) (hk : Kc W W') : MadeC W' b g l :=
  ⟨h.ge, Nat.lt_of_lt_of_le h.lt hk.size, fun i hi => by
    obtain ⟨gi, cap, h1, h2, h3⟩ := h.cells i hi
    exact ⟨gi, cap, hk.cell _ _ _ h1, h2, readT_kc h3 hk⟩⟩
theorem madeRd_kc {W W' : World} {b g : Nat} {l : List Rdg} (h : MadeRd W b g l) (hk : Kc W W') : MadeRd W' b g l :=
  ⟨h.ge, Nat.lt_of_lt_of_le h.lt hk.size, fun i hi => by
    obtain ⟨h0, gi, h1, h2⟩ := h.cells i hi
    exact ⟨hk.cell _ _ _ h0, gi, hk.cell _ _ _ h1, madeC_kc h2 hk⟩⟩
/-- A read in a box of its own. -/
structure BxU (W : World) (b : Nat) (s : ByteArray) (v : Value) : Prop where
  c0 : W.cell? ⟨b, 0, none⟩ = some (.string s)
  c1 : W.cell? ⟨b, 1, none⟩ = some v
theorem BxU.kc {W W' : World} {b : Nat} {s : ByteArray} {v : Value} (h : BxU W b s v) (k : Kc W W') : BxU W' b s v := ⟨k.cell _ _ _ h.c0, k.cell _ _ _ h.c1⟩
theorem BxU.start (w : World) (s : ByteArray) (v : Value) (T : TypeId) : BxU (w.alloc (.cells #[.string s, v] T)) w.heap.size s v := by
  constructor <;> simp [go_sem]

end Go.Proofs.YtcggkeleaepebaaGreatDoor.Ce

/- The pairs of reads and changes that are bound: the iterator's walk. -/
namespace Go.Proofs.YtcggkeleaepebaaGreatDoor.Ce
open Go.RowKit Go.Shelf Tr Co Rea
set_option linter.unusedVariables false
attribute [local go_sem] Oper.semAt_some

set_option maxRecDepth 100000 in
set_option maxHeartbeats 4000000 in
theorem pairsR_in (n : Nat) (hn : 1 ≤ n) (l B1 B2 B3 g g2 b1 c1 c2 n1 : Nat) (rs : List Rdg) (cs : List Cgr) (P : Nat → Nat → Bool) (hP : ∀ k (hk : k < rs.length) q (hq : q < cs.length), P k q = hitB rs[k] cs[q]) (hl1 : rs.length ≤ 1048576) (hl : cs.length ≤ 1048576) (ho1 : ∀ v ∈ rs, okR v = true) (ho2 : ∀ v ∈ cs, okCg v = true) (J Jx : List (Nat × Nat) → World → Prop) (hJ : AbidesFrom n1 J)
    (hY : ∀ pre x W, J pre W → pre.length < rs.length * cs.length → YieldAt Fence.wide (n - 1) Tryz.prog l #[.int .i64 (x.1 : Int), .int .i64 (x.2 : Int)] W fun e W' =>
      (e = .returned (.bool true) ∧ J (pre ++ [x]) W' ∧ Kc W W') ∨ (e = .returned (.bool false) ∧ Jx (pre ++ [x]) W'))
    (W : World) (hB1 : W.cell? ⟨B1, 0, none⟩ = some (.slice (some ⟨g, 0, none⟩) rs.length c1)) (hB2 : W.cell? ⟨B2, 0, none⟩ = some (.slice (some ⟨g2, 0, none⟩) cs.length c2)) (hB3 : W.cell? ⟨B3, 0, none⟩ = some (.func (.func 106) #[] #[])) (hA : MadeRd W b1 g rs) (hR : ReadCg W g2 cs) (h0 : J [] W) :
    CallsIn Fence.wide n Tryz.prog 139 #[.func (.yield l) #[] #[], .pointer (some ⟨B1, 0, none⟩), .pointer (some ⟨B2, 0, none⟩), .pointer (some ⟨B3, 0, none⟩)] W fun e W' => (∃ v, e = .returned v) ∧
      ((∃ ys, ys = upTo cs.length P rs.length 0 ∧ J ys W') ∨ (∃ pre, (∀ x ∈ pre, Gd rs.length cs.length P x) ∧ Jx pre W')) := by
  have HR : Hid (ReadCg _ _ _) := hR
  have HA : Hid (MadeRd _ _ _ _) := hA
  have HPP : Hid (∀ k (hk : k < rs.length) q (hq : q < cs.length), P k q = hitB rs[k] cs[q]) := hP
  have HO1 : Hid (∀ v ∈ rs, okR v = true) := ho1
  have HO2 : Hid (∀ v ∈ cs, okCg v = true) := ho2
  clear hR hA hP ho1 ho2
  refine callsIn_of_wp Tryz.func139 rfl trivial ?_ rfl
  simp only [Tryz.ntmps139, List.size_toArray, List.length_cons, List.length_nil, Nat.reduceAdd, Nat.reduceSub, Array.replicate_succ, Array.replicate_zero, List.push_toArray, List.append_toArray, List.nil_append, List.cons_append]
  gi_wp2
  refine wpIn_wide.2 (wp_scope_straight ((wpIn_wide (n := n)).1 ?_))
  refine wpIn_seq (wpIn_label ?_)
  gi_wp2
  gi_loopw [11] (fun i wr => ∃ (k : Nat), k ≤ rs.length ∧ i = .int .i64 k ∧ J (upTo cs.length P k 0) wr ∧ Kc W wr)
    (fun i _ => rs.length - (intOf i).toNat)
  case atStart => exact ⟨0, Nat.zero_le _, rfl, by rw [upTo_zero]; exact h0, Kc.refl _⟩
  case round =>
    obtain ⟨k, hk, rfl, hJs, hkc⟩ := hrel
    by_cases hlt : k < rs.length
    · have hlt2 : (k : Int) < (rs.length : Int) := by omega
      have R1 := madeRd_kc HA.out hkc
      obtain ⟨x0, gx, x1, xa⟩ := R1.cells k hlt
      have hg1 := R1.lt
      have HSM : Hid (∀ (q : Nat) (h : q < cs.length), P k q = hitB rs[k] cs[q]) := fun q h => HPP.out k hlt q h
      have HOX : Hid (okR rs[k] = true) := HO1.out _ (List.getElem_mem _)
      obtain ⟨x, hx⟩ : ∃ x, x = rs[k] := ⟨_, rfl⟩
      rw [← hx] at x0 x1 xa HSM HOX
      have HXA : Hid (MadeC _ _ _ _) := xa
      clear hx xa
      have hal : Below wr.heap.size wr (wr.alloc (.cells #[.string x.coll, .slice (some ⟨gx, 0, none⟩) x.f.length x.f.length] 80)) := (Below.refl _ _).alloc (Nat.le_refl _) _
      have HJ5 : Hid (J (upTo cs.length P k 0) _) := hJ _ _ _ none hJs (grown_of_below hal) (fun r e => by cases e)
      have HK5 : Hid (Kc W _) := hkc.trans (Kc.below hal)
      have HX5 : Hid (BxU _ wr.heap.size x.coll (.slice (some ⟨gx, 0, none⟩) x.f.length x.f.length)) := BxU.start wr x.coll _ 80
      have HM5 : Hid (MadeC _ b1 gx x.f) := madeC_kc HXA.out (Kc.below hal)
      clear hal HXA
      have hB2w := hkc.cell _ _ _ hB2
      have hl2 := cell_lt hB2w
      clear R1
      gi_wp2
      clear x0 x1 hB2w hl2 hg1
      generalize wr.alloc _ = W5 at HJ5 HK5 HX5 HM5 ⊢
      gi_loopw [18] (fun j wq => ∃ (q : Nat), q ≤ cs.length ∧ j = .int .i64 q ∧ J (upTo cs.length P k q) wq ∧ Kc W5 wq)
        (fun j _ => cs.length - (intOf j).toNat)
      case atStart => exact ⟨0, Nat.zero_le _, rfl, HJ5.out, Kc.refl _⟩
      case round =>
        obtain ⟨q, hq, rfl, hJq, hkq⟩ := hrel
        by_cases hlq : q < cs.length
        · have hlq2 : (q : Int) < (cs.length : Int) := by omega
          have hkW := HK5.out.trans hkq
          have R1 := readCg_kc HR.out hkW
          obtain ⟨x0, x1, x2, x3, x4, x5, x6, x7, x8, x9⟩ := R1.cells q hlq
          have hg1 := R1.lt
          have hB3w := hkW.cell _ _ _ hB3
          have hl3 := cell_lt hB3w
          obtain ⟨y0, y1⟩ := HX5.out.kc hkq
          have hly := cell_lt y0
          have HG : Hid (P k q = hitB x cs[q]) := HSM.out q hlq
          have HOY : Hid (okCg cs[q] = true) := HO2.out _ (List.getElem_mem _)
          have HMQ : Hid (MadeC wr b1 gx x.f) := madeC_kc HM5.out hkq
          obtain ⟨y, hy⟩ : ∃ y, y = cs[q] := ⟨_, rfl⟩
          rw [← hy] at x0 x1 x2 x3 x4 x5 x6 x7 x8 x9 HG HOY
          clear hy R1
          have hal : Below wr.heap.size wr (wr.alloc (.cells #[.string y.wr.coll, .int .i64 y.wr.id, .bool y.wr.gone, .int .i64 y.wr.doc.k, .int .i64 y.wr.doc.n, .string y.wr.doc.t, .int .i64 y.bef.k, .int .i64 y.bef.n, .string y.bef.t, .bool y.was] 86)) := (Below.refl _ _).alloc (Nat.le_refl _) _
          have HCA : Hid (Calls _ _ _ _ _) := hangsOn_any x y (some ⟨gx, 0, none⟩) x.f.length (wr.alloc (.cells #[.string y.wr.coll, .int .i64 y.wr.id, .bool y.wr.gone, .int .i64 y.wr.doc.k, .int .i64 y.wr.doc.n, .string y.wr.doc.t, .int .i64 y.bef.k, .int .i64 y.bef.n, .string y.bef.t, .bool y.was] 86)) (.inr ⟨gx, rfl, (madeC_kc HMQ.out (Kc.below hal)).read⟩) HOX.out HOY.out
          cases hP : hitB x y
          · have HP : Hid (hitB x y = false) := hP
            have HN : Hid (P k q = false) := HG.out.trans hP
            clear hP
            gi_wp2
            refine ⟨trivial, (callsIn_wide.2 HCA.out).mono ?_⟩
            rintro e w1 ⟨rfl, hb⟩
            rw [HP.out]
            have hBq : Below wr.heap.size wr w1 := hal.trans (hb.mono (by simp))
            have hJ1 : J (upTo cs.length P k q) w1 := hJ _ _ _ none hJq (grown_of_below hBq) (fun r e => by cases e)
            have hk1 : Kc W5 w1 := hkq.trans (Kc.below hBq)
            clear hb x0 x1 x2 x3 x4 x5 x6 x7 x8 x9 y0 y1 hBq hal
            gi_wp2
            refine ⟨fun _ h => (by cases h), ?_⟩
            gi_wp2
            go_roundw
            case rel => exact ⟨q + 1, by omega, by go_num, by rw [upTo_next _ _ _ _ HN.out]; exact hJ1, hk1⟩
            case measure => simp [intOf]; omega
          · have HP : Hid (hitB x y = true) := hP
            have HN : Hid (P k q = true) := HG.out.trans hP
            clear hP
            gi_wp2
            refine ⟨trivial, (callsIn_wide.2 HCA.out).mono ?_⟩
            rintro e w1 ⟨rfl, hb⟩
            rw [HP.out]
            have hBq : Below wr.heap.size wr w1 := hal.trans (hb.mono (by simp))
            have hJ1 : J (upTo cs.length P k q) w1 := hJ _ _ _ none hJq (grown_of_below hBq) (fun r e => by cases e)
            have hk1 : Kc W5 w1 := hkq.trans (Kc.below hBq)
            clear hb x0 x1 x2 x3 x4 x5 x6 x7 x8 x9 y0 y1 hBq hal
            obtain ⟨fn, tmps, assign, body, hy, hR⟩ := hY (upTo cs.length P k q) (k, q) w1 hJ1 (upTo_room _ _ _ _ _ hlt hlq)
            dsimp only at hy
            gi_wp2
            refine hR.mono ?_
            rintro e W3 (⟨rfl, hJ3, hk3⟩ | ⟨rfl, hJx3⟩)
            · gi_wp2
              go_roundw
              case rel => exact ⟨q + 1, by omega, by go_num, by rw [upTo_add _ _ _ _ HN.out]; exact hJ3, hk1.trans hk3⟩
              case measure => simp [intOf]; omega
            · gi_wp2
              rw [Exit.noGoto_normal]
              go_end0
              exact ⟨⟨_, rfl⟩, .inr ⟨_, upTo_gd _ _ _ _ _ hlt hlq HN.out, hJx3⟩⟩
        · have hlq2 : ¬ (q : Int) < (cs.length : Int) := by omega
          obtain rfl : q = cs.length := by omega
          gi_wp2
          go_roundw
          case rel => exact ⟨k + 1, by omega, by go_num, by rw [upTo_turn]; exact hJq, HK5.out.trans hkq⟩
          case measure => simp [intOf]; omega
    · have hlt2 : ¬ (k : Int) < (rs.length : Int) := by omega
      obtain rfl : k = rs.length := by omega
      gi_wp2
      go_end0
      exact ⟨⟨_, rfl⟩, .inl ⟨_, rfl, hJs⟩⟩

end Go.Proofs.YtcggkeleaepebaaGreatDoor.Ce

/- Whether some read hangs on some change: the program's loop over the pairs. -/
namespace Go.Proofs.YtcggkeleaepebaaGreatDoor.Ce
open Go.RowKit Go.Shelf Tr Co Rea
set_option linter.unusedVariables false
attribute [local go_sem] Oper.semAt_some

/-- The world behind the pairs' maker. -/
def mkR (w : World) (v1 v2 : Value) (T : TypeId) : World := ((w.alloc (.cells #[v1] 33)).alloc (.cells #[v2] 34)).alloc (.cells #[.func (.func 106) #[] #[]] T)
set_option maxRecDepth 4000 in
set_option maxHeartbeats 1000000 in
theorem pairsR_any (p1 p2 : Option Addr) (n1 n2 c1 c2 : Nat) (w : World) :
    Calls Tryz.prog 122 #[.slice p1 n1 c1, .slice p2 n2 c2, .func (.func 106) #[] #[]] w fun e w' => e = .returned (.func (.func 139) #[] #[.pointer (some ⟨w.heap.size, 0, none⟩), .pointer (some ⟨w.heap.size + 1, 0, none⟩), .pointer (some ⟨w.heap.size + 1 + 1, 0, none⟩)]) ∧ ∃ T, w' = mkR w (.slice p1 n1 c1) (.slice p2 n2 c2) T := by
  go_enter Tryz.func122, Tryz.ntmps122
  go_wp2_with fail
  go_ret
  exact ⟨rfl, _, rfl⟩
theorem mkR_facts (w : World) (v1 v2 : Value) (T : TypeId) : Below w.heap.size w (mkR w v1 v2 T) ∧ (mkR w v1 v2 T).heap.size = w.heap.size + 3 ∧ (mkR w v1 v2 T).cell? ⟨w.heap.size, 0, none⟩ = some v1 ∧ (mkR w v1 v2 T).cell? ⟨w.heap.size + 1, 0, none⟩ = some v2 ∧ (mkR w v1 v2 T).cell? ⟨w.heap.size + 1 + 1, 0, none⟩ = some (.func (.func 106) #[] #[]) := by
  unfold mkR
  exact ⟨(((Below.refl _ _).alloc (Nat.le_refl _) _).alloc (by simp) _).alloc (by simp; omega) _, by simp, by simp [go_sem], by simp [go_sem], by simp [go_sem]⟩

def pairP (rs : List Rdg) (cs : List Cgr) (i j : Nat) : Bool := match rs[i]?, cs[j]? with | some a, some b => hitB a b | _, _ => false
theorem pairP_at (rs : List Rdg) (cs : List Cgr) (k : Nat) (hk : k < rs.length) (q : Nat) (hq : q < cs.length) : pairP rs cs k q = hitB rs[k] cs[q] := by
  simp [pairP, List.getElem?_eq_getElem hk, List.getElem?_eq_getElem hq]
/-- Whether some read hangs on some change. -/
def hitsB (rs : List Rdg) (cs : List Cgr) : Bool := rs.any (fun r => cs.any (hitB r))
theorem hitsB_yes (rs : List Rdg) (cs : List Cgr) (x : Nat × Nat) (h : Gd rs.length cs.length (pairP rs cs) x) : hitsB rs cs = true := by
  obtain ⟨h1, h2, h3⟩ := h
  rw [pairP_at rs cs x.1 h1 x.2 h2] at h3
  unfold hitsB
  rw [List.any_eq_true]
  refine ⟨rs[x.1], List.getElem_mem _, ?_⟩
  rw [List.any_eq_true]
  exact ⟨cs[x.2], List.getElem_mem _, h3⟩
theorem hitsB_no (rs : List Rdg) (cs : List Cgr) (h : upTo cs.length (pairP rs cs) rs.length 0 = []) : hitsB rs cs = false := by
  rw [Bool.eq_false_iff]
  intro hh
  unfold hitsB at hh
  rw [List.any_eq_true] at hh
  obtain ⟨r, hr, hh⟩ := hh
  rw [List.any_eq_true] at hh
  obtain ⟨c, hc, hh⟩ := hh
  obtain ⟨i, hi, rfl⟩ := List.getElem_of_mem hr
  obtain ⟨j, hj, rfl⟩ := List.getElem_of_mem hc
  have : (i, j) ∈ upTo cs.length (pairP rs cs) rs.length 0 := (upTo_mem _ _ _ _ _).2 ⟨.inl ⟨hi, hj⟩, by rw [pairP_at rs cs i hi j hj]; exact hh⟩
  rw [h] at this
  cases this

set_option maxRecDepth 100000 in
set_option maxHeartbeats 4000000 in
theorem somePair_any (g1 g2 c1 c2 b1 : Nat) (rs : List Rdg) (cs : List Cgr) (w : World) (hA : MadeRd w b1 g1 rs) (hR : ReadCg w g2 cs) (hl1 : rs.length ≤ 1048576) (hl : cs.length ≤ 1048576) (ho1 : ∀ v ∈ rs, okR v = true) (ho2 : ∀ v ∈ cs, okCg v = true) :
    Calls Tryz.prog 105 #[.slice (some ⟨g1, 0, none⟩) rs.length c1, .slice (some ⟨g2, 0, none⟩) cs.length c2, .func (.func 106) #[] #[]] w fun e w' => e = .returned (.bool (hitsB rs cs)) ∧ Below w.heap.size w w' := by
  refine (callsIn_wide (n := 4)).1 ?_
  refine callsIn_of_wp_marks Tryz.func105 rfl trivial ?_ rfl
  simp only [Tryz.ntmps105, List.size_toArray, List.length_cons, List.length_nil, Nat.reduceAdd, Nat.reduceSub, Array.replicate_succ, Array.replicate_zero, List.push_toArray, List.append_toArray, List.nil_append, List.cons_append]
  gi_wp2
  refine ⟨trivial, (callsIn_wide.2 (pairsR_any _ _ _ _ _ _ _)).mono ?_⟩
  rintro e w' ⟨rfl, T, rfl⟩
  have c0 : (w.alloc (.cells #[.bool false] 4)).cell? ⟨w.heap.size, 0, none⟩ = some (.bool false) ∧ (w.alloc (.cells #[.bool false] 4)).frozen? ⟨w.heap.size, 0, none⟩ = false := ⟨by simp [go_sem], by simp [go_sem]⟩
  obtain ⟨m0, m1, m2, m3, m4⟩ := mkR_facts (w.alloc (.cells #[.bool false] 4)) (.slice (some ⟨g1, 0, none⟩) rs.length c1) (.slice (some ⟨g2, 0, none⟩) cs.length c2) T
  have hlow : Below w.heap.size w (w.alloc (.cells #[.bool false] 4)) := (Below.refl _ w).alloc (Nat.le_refl _) _
  generalize mkR (w.alloc (.cells #[.bool false] 4)) (.slice (some ⟨g1, 0, none⟩) rs.length c1) (.slice (some ⟨g2, 0, none⟩) cs.length c2) T = W0 at m0 m1 m2 m3 m4 ⊢
  have hB0 : Below w.heap.size w W0 := hlow.trans (m0.mono (by simp))
  have k0 : W0.cell? ⟨w.heap.size, 0, none⟩ = some (.bool false) := (m0.cell (p := ⟨w.heap.size, 0, none⟩) (by simp)).trans c0.1
  have f0 : W0.frozen? ⟨w.heap.size, 0, none⟩ = false := (m0.frozen (p := ⟨w.heap.size, 0, none⟩) (by simp)).trans c0.2
  simp only [World.size_alloc] at m1 m2 m3 m4
  have hR0 : ReadCg W0 g2 cs := hR.next hB0
  have hA0 : MadeRd W0 b1 g1 rs := hA.next hB0
  clear m0 c0 hlow hR hA
  gi_wp2
  refine wpIn_rangeFunc_ownF rfl (by decide) (gf := 139) (lb := #[.pointer (some ⟨w.heap.size + 1, 0, none⟩), .pointer (some ⟨w.heap.size + 1 + 1, 0, none⟩), .pointer (some ⟨w.heap.size + 1 + 1 + 1, 0, none⟩)]) rfl trivial (enters_of Tryz.func139 (by kernel_rfl) rfl)
    (α := Nat × Nat) (encs := fun x => #[.int .i64 (x.1 : Int), .int .i64 (x.2 : Int)]) (Kp := Kc) (S := fun ys => ys = upTo cs.length (pairP rs cs) rs.length 0) (Sp := fun pre => ∀ x ∈ pre, Gd rs.length cs.length (pairP rs cs) x) (N := rs.length * cs.length) (w0 := W0)
    (fun l J Jx W hW hJ _ hY h0 => pairsR_in 3 (by decide) l (w.heap.size + 1) (w.heap.size + 1 + 1) (w.heap.size + 1 + 1 + 1) g1 g2 b1 c1 c2 W.heap.size rs cs (pairP rs cs) (fun k hk q hq => pairP_at rs cs k hk q hq) hl1 hl ho1 ho2 J Jx hJ hY W ((Kc.below hW).cell _ _ _ m2) ((Kc.below hW).cell _ _ _ m3) ((Kc.below hW).cell _ _ _ m4) (hA0.next hW) (hR0.next hW) h0)
    Kc.trans (kc_b (w := W0)) (Below.refl _ _) (fun _ => rfl)
    (fun pre W => (pre = [] ∧ W.cell? ⟨w.heap.size, 0, none⟩ = some (.bool false) ∧ W.frozen? ⟨w.heap.size, 0, none⟩ = false) ∧ Below w.heap.size w W)
    (fun cd pre W => (cd = .ret ∧ pre ≠ [] ∧ W.cell? ⟨w.heap.size, 0, none⟩ = some (.bool true)) ∧ Below w.heap.size w W)
    (OwnFrom.and (Own.from (fun s A B row hs hg hr => ⟨hs.1, cell_kept hs.2.1 hg hr, (frozen_kept hs.2.1 hg hr).trans hs.2.2⟩) _) (ownFrom_below (Nat.le_refl _) (by omega)))
    (fun cd => OwnFrom.and (Own.from (fun s A B row hs hg hr => ⟨hs.1, hs.2.1, cell_kept hs.2.2 hg hr⟩) _) (ownFrom_below (Nat.le_refl _) (by omega)))
    ⟨⟨rfl, k0, f0⟩, hB0⟩
    (fun x => { tmps := #[.slice (some ⟨g1, 0, none⟩) rs.length c1, .slice (some ⟨g2, 0, none⟩) cs.length c2, .func (.func 106) #[] #[], undef, undef, undef, .pointer (some ⟨w.heap.size, 0, none⟩), .slice (some ⟨g1, 0, none⟩) rs.length c1, .slice (some ⟨g2, 0, none⟩) cs.length c2, .func (.func 106) #[] #[], .func (.func 139) #[] #[.pointer (some ⟨w.heap.size + 1, 0, none⟩), .pointer (some ⟨w.heap.size + 1 + 1, 0, none⟩), .pointer (some ⟨w.heap.size + 1 + 1 + 1, 0, none⟩)], .int .i64 (x.1 : Int), .int .i64 (x.2 : Int)], defers := [] }) ?assign ?body ?done ?stop
  case assign =>
    intro l x W K hK
    gi_wp2
    first | exact hK | (simpa using hK) | (simp [Array.zip, Array.zipWith] ; exact hK)
  case body =>
    rintro l pre x W ⟨⟨hp, hcr, hfr⟩, hB⟩ _
    gi_wp2
    exact ⟨KeepsOthers.setCell _ _ _, ⟨rfl, by simp, World.cell?_setCell_same' _ _ _ (by rw [hcr]; rfl)⟩, hB.setCell (p := ⟨w.heap.size, 0, none⟩) (by simp) _⟩
  case done =>
    rintro D ys W hD hS ⟨⟨rfl, hcr, hfr⟩, hB⟩ hK
    have HNO : Hid (hitsB rs cs = false) := hitsB_no rs cs hS.symm
    clear hS
    gi_wp2
    have hK' := (KeepsOthers.setCell W ⟨w.heap.size, 0, none⟩ (.bool false)).same D _ hK rfl
    refine ⟨by simp, .inl ⟨_, _, rfl, run_takeDeferred hK', ?_⟩⟩
    have hc5 := cell_kept (World.cell?_setCell_same' W ⟨w.heap.size, 0, none⟩ (.bool false) (by rw [hcr]; rfl)) (grownBy_putObj' _ D (.deferred none)) (fun r e => by cases e; exact ⟨_, hK', rfl⟩)
    refine ⟨.bool false, ?_, by rw [HNO.out], (hB.setCell (p := ⟨w.heap.size, 0, none⟩) (by simp) _).trans (belowK_b (w := w) (Nat.le_refl _) _ D _ _ (by omega) hK' rfl rfl)⟩
    simp [results, Tryz.f105, go_sem, hc5]
  case stop =>
    rintro D cd pre W hD hpre ⟨⟨rfl, hne, hcr⟩, hB⟩ hK
    have HYES : Hid (hitsB rs cs = true) := by
      cases pre with
      | nil => exact absurd rfl hne
      | cons x xs => exact hitsB_yes rs cs x (hpre x (by simp))
    clear hpre hne
    gi_wp2
    refine ⟨by simp, .inl ⟨_, _, rfl, run_takeDeferred hK, ?_⟩⟩
    have hc5 := cell_kept hcr (grownBy_putObj' _ D (.deferred none)) (fun r e => by cases e; exact ⟨_, hK, rfl⟩)
    refine ⟨.bool true, ?_, by rw [HYES.out], hB.trans (belowK_b (w := w) (Nat.le_refl _) W D _ _ (by omega) hK rfl rfl)⟩
    simp [results, Tryz.f105, go_sem, hc5]

end Go.Proofs.YtcggkeleaepebaaGreatDoor.Ce

/- Whether some read hangs on some change: the specification's answer; whether one must come ahead of another: both answers. -/
namespace Go.Proofs.YtcggkeleaepebaaGreatDoor.Ce
open Go.RowKit Go.ChangeShapes Go.WideShapes Go.ChangeAt Go.Joins Tr Co Rea
set_option linter.unusedVariables false

theorem keepHt {W w0 : World} {g1 g2 k j gx : Nat} {x : Rdg} {y : Cgr} (l1 : g1 < W.heap.size) (l2 : g2 < W.heap.size) (f0 : W.cell? ⟨g1, k * 2, none⟩ = some (.string x.coll)) (f1 : W.cell? ⟨g1, k * 2 + 1, none⟩ = some (.slice (some ⟨gx, 0, none⟩) x.f.length x.f.length)) (f2 : W.cell? ⟨g2, j * 10, none⟩ = some (.string y.wr.coll)) (f3 : W.cell? ⟨g2, j * 10 + 1, none⟩ = some (.int .i64 y.wr.id)) (f4 : W.cell? ⟨g2, j * 10 + 2, none⟩ = some (.bool y.wr.gone)) (f5 : W.cell? ⟨g2, j * 10 + 3, none⟩ = some (.int .i64 y.wr.doc.k)) (f6 : W.cell? ⟨g2, j * 10 + 4, none⟩ = some (.int .i64 y.wr.doc.n)) (f7 : W.cell? ⟨g2, j * 10 + 5, none⟩ = some (.string y.wr.doc.t)) (f8 : W.cell? ⟨g2, j * 10 + 6, none⟩ = some (.int .i64 y.bef.k)) (f9 : W.cell? ⟨g2, j * 10 + 7, none⟩ = some (.int .i64 y.bef.n)) (f10 : W.cell? ⟨g2, j * 10 + 8, none⟩ = some (.string y.bef.t)) (f11 : W.cell? ⟨g2, j * 10 + 9, none⟩ = some (.bool y.was)) (hb : Below W.heap.size W w0) : w0.cell? ⟨g1, k * 2, none⟩ = some (.string x.coll) ∧ w0.cell? ⟨g1, k * 2 + 1, none⟩ = some (.slice (some ⟨gx, 0, none⟩) x.f.length x.f.length) ∧ w0.cell? ⟨g2, j * 10, none⟩ = some (.string y.wr.coll) ∧ w0.cell? ⟨g2, j * 10 + 1, none⟩ = some (.int .i64 y.wr.id) ∧ w0.cell? ⟨g2, j * 10 + 2, none⟩ = some (.bool y.wr.gone) ∧ w0.cell? ⟨g2, j * 10 + 3, none⟩ = some (.int .i64 y.wr.doc.k) ∧ w0.cell? ⟨g2, j * 10 + 4, none⟩ = some (.int .i64 y.wr.doc.n) ∧ w0.cell? ⟨g2, j * 10 + 5, none⟩ = some (.string y.wr.doc.t) ∧ w0.cell? ⟨g2, j * 10 + 6, none⟩ = some (.int .i64 y.bef.k) ∧ w0.cell? ⟨g2, j * 10 + 7, none⟩ = some (.int .i64 y.bef.n) ∧ w0.cell? ⟨g2, j * 10 + 8, none⟩ = some (.string y.bef.t) ∧ w0.cell? ⟨g2, j * 10 + 9, none⟩ = some (.bool y.was) :=
  ⟨(hb.cell l1).trans f0, (hb.cell l1).trans f1, (hb.cell l2).trans f2, (hb.cell l2).trans f3, (hb.cell l2).trans f4, (hb.cell l2).trans f5, (hb.cell l2).trans f6, (hb.cell l2).trans f7, (hb.cell l2).trans f8, (hb.cell l2).trans f9, (hb.cell l2).trans f10, (hb.cell l2).trans f11⟩
theorem hits_at (rs : List Rdg) (cs : List Cgr) (k j : Nat) (hk : k < rs.length) (hj : j < cs.length) (h : hitB rs[k] cs[j] = true) : hitsB rs cs = true := by
  unfold hitsB
  rw [List.any_eq_true]
  refine ⟨rs[k], List.getElem_mem _, ?_⟩
  rw [List.any_eq_true]
  exact ⟨cs[j], List.getElem_mem _, h⟩
theorem hits_none (rs : List Rdg) (cs : List Cgr) (h : ∀ u ∈ rs, cs.any (hitB u) = false) : hitsB rs cs = false := by
  unfold hitsB
  rw [Bool.eq_false_iff]
  intro hh
  obtain ⟨u, hu, hv⟩ := List.any_eq_true.1 hh
  rw [h u hu] at hv
  cases hv

set_option maxRecDepth 8000 in
set_option maxHeartbeats 4000000 in
theorem l09Hits_any (g1 g2 c1 c2 b1 : Nat) (rs : List Rdg) (cs : List Cgr) (w : World) (h1 : MadeRd w b1 g1 rs) (h2 : ReadCg w g2 cs) (hl1 : rs.length ≤ 1048576) (hl2 : cs.length ≤ 1048576) (ho1 : ∀ v ∈ rs, okR v = true) (ho2 : ∀ v ∈ cs, okCg v = true) :
    Calls Tryz.prog 44 #[.slice (some ⟨g1, 0, none⟩) rs.length c1, .slice (some ⟨g2, 0, none⟩) cs.length c2] w fun e w' => e = .returned (.bool (hitsB rs cs)) ∧ Below w.heap.size w w' := by
  have H1 : Hid (MadeRd _ _ _ _) := h1
  have H2 : Hid (ReadCg _ _ _) := h2
  have HO1 : Hid (∀ v ∈ rs, okR v = true) := ho1
  have HO2 : Hid (∀ v ∈ cs, okCg v = true) := ho2
  have HAT : Hid (∀ (k j : Nat) (hk : k < rs.length) (hj : j < cs.length), hitB rs[k] cs[j] = true → hitsB rs cs = true) := fun k j hk hj h => hits_at rs cs k j hk hj h
  have HNO : Hid ((∀ u ∈ rs, cs.any (hitB u) = false) → hitsB rs cs = false) := hits_none rs cs
  obtain ⟨R, hR⟩ : ∃ R, R = hitsB rs cs := ⟨_, rfl⟩
  rw [← hR] at HAT HNO ⊢
  clear h1 h2 ho1 ho2 hR
  go_enter Tryz.func44, Tryz.ntmps44
  go_wp2_with fail
  go_loopw [5] (fun i wr => ∃ k : Nat, k ≤ rs.length ∧ i = .int .i64 k ∧ (∀ u ∈ rs.take k, cs.any (hitB u) = false) ∧ Below w.heap.size w wr) (fun i _ => rs.length - (intOf i).toNat)
  case atStart => exact ⟨0, Nat.zero_le _, rfl, (fun u hu => by simp at hu), Below.refl _ _⟩
  case round =>
    obtain ⟨k, hk, rfl, hall, hbel⟩ := hrel
    have HA : Hid (∀ u ∈ rs.take k, cs.any (hitB u) = false) := hall
    clear hall
    by_cases hlt : k < rs.length
    · have hlt2 : (k : Int) < (rs.length : Int) := by omega
      have HGOOD : Hid (cs.any (hitB rs[k]) = false → ∀ u ∈ rs.take (k + 1), cs.any (hitB u) = false) := fun h => take_allRd (fun u => cs.any (hitB u) = false) rs k hlt HA.out h
      have HOX : Hid (okR rs[k] = true) := HO1.out _ (List.getElem_mem _)
      have HATK : Hid (∀ (j : Nat) (hj : j < cs.length), hitB rs[k] cs[j] = true → R = true) := fun j hj h => HAT.out k j hlt hj h
      obtain ⟨x, hx⟩ : ∃ x, x = rs[k] := ⟨_, rfl⟩
      have HX : Hid (x = rs[k]) := hx
      rw [← hx] at HGOOD HOX HATK
      clear hx HA
      go_wp2_with fail
      go_loopw [6] (fun i wq => ∃ j : Nat, j ≤ cs.length ∧ i = .int .i64 j ∧ (∀ v ∈ cs.take j, hitB x v = false) ∧ Below w.heap.size w wq) (fun i _ => cs.length - (intOf i).toNat)
      case atStart => exact ⟨0, Nat.zero_le _, rfl, (fun u hu => by simp at hu), hbel⟩
      case round =>
        obtain ⟨j, hj, rfl, hno, hbel2⟩ := hrel
        have HN : Hid (∀ v ∈ cs.take j, hitB x v = false) := hno
        clear hno
        by_cases hlt3 : j < cs.length
        · have hlt4 : (j : Int) < (cs.length : Int) := by omega
          have R1 := H1.out.next hbel2
          obtain ⟨f0, gx, f1, xa⟩ := R1.cells k hlt
          have l1 := R1.lt
          have R2 := H2.out.next hbel2
          obtain ⟨f2, f3, f4, f5, f6, f7, f8, f9, f10, f11⟩ := R2.cells j hlt3
          have l2 := R2.lt
          rw [← HX.out] at f0 f1 xa
          have HNX : Hid (hitB x cs[j] = false → ∀ v ∈ cs.take (j + 1), hitB x v = false) := fun h => take_next cs (hitB x) j hlt3 HN.out h
          have HYX : Hid (hitB x cs[j] = true → R = true) := HATK.out j hlt3
          have HOY : Hid (okCg cs[j] = true) := HO2.out _ (List.getElem_mem _)
          obtain ⟨y, hy⟩ : ∃ y, y = cs[j] := ⟨_, rfl⟩
          rw [← hy] at f2 f3 f4 f5 f6 f7 f8 f9 f10 f11 HNX HYX HOY
          have HC : Hid (∀ W : World, Below wr.heap.size wr W → Calls _ _ _ W _) := fun W hW => l09Hit_any x y (some ⟨gx, 0, none⟩) x.f.length W (.inr ⟨gx, rfl, (madeR_next xa hW).read⟩) HOX.out HOY.out
          clear hy R1 R2 xa
          cases hP : hitB x y
          · rw [hP] at HC
            have HN2 : Hid (∀ v ∈ cs.take (j + 1), hitB x v = false) := HNX.out hP
            clear hP HNX HYX
            go_wp2_with fail
            go_region_held3 (fun w0 => w0.cell? ⟨g1, k * 2, none⟩ = some (.string x.coll) ∧ w0.cell? ⟨g1, k * 2 + 1, none⟩ = some (.slice (some ⟨gx, 0, none⟩) x.f.length x.f.length) ∧ w0.cell? ⟨g2, j * 10, none⟩ = some (.string y.wr.coll) ∧ w0.cell? ⟨g2, j * 10 + 1, none⟩ = some (.int .i64 y.wr.id) ∧ w0.cell? ⟨g2, j * 10 + 2, none⟩ = some (.bool y.wr.gone) ∧ w0.cell? ⟨g2, j * 10 + 3, none⟩ = some (.int .i64 y.wr.doc.k) ∧ w0.cell? ⟨g2, j * 10 + 4, none⟩ = some (.int .i64 y.wr.doc.n) ∧ w0.cell? ⟨g2, j * 10 + 5, none⟩ = some (.string y.wr.doc.t) ∧ w0.cell? ⟨g2, j * 10 + 6, none⟩ = some (.int .i64 y.bef.k) ∧ w0.cell? ⟨g2, j * 10 + 7, none⟩ = some (.int .i64 y.bef.n) ∧ w0.cell? ⟨g2, j * 10 + 8, none⟩ = some (.string y.bef.t) ∧ w0.cell? ⟨g2, j * 10 + 9, none⟩ = some (.bool y.was)) ((refine keepHt l1 l2 f0 f1 f2 f3 f4 f5 f6 f7 f8 f9 f10 f11 ?_; (repeat (first | (with_reducible exact Below.refl _ _) | (with_reducible assumption) | (with_reducible apply below_drewN) | (with_reducible apply Below.drew) | ((with_reducible refine Below.setCell ?_ ?_ _); rotate_left; focus (first | (simp; done) | (simp; omega) | omega)) | ((with_reducible refine Below.alloc ?_ ?_ _); rotate_left; focus (first | (simp; done) | (simp; omega) | omega)))))) ((go_at_call 71; refine (HC.out _ (by (repeat (first | (with_reducible exact Below.refl _ _) | (with_reducible assumption) | (with_reducible apply below_drewN) | (with_reducible apply Below.drew) | ((with_reducible refine Below.setCell ?_ ?_ _); rotate_left; focus (first | (simp; done) | (simp; omega) | omega)) | ((with_reducible refine Below.alloc ?_ ?_ _); rotate_left; focus (first | (simp; done) | (simp; omega) | omega)))))).mono ?_; rintro e w1 ⟨rfl, hb⟩; have hB1 : Below wr.heap.size wr w1 := (show Below wr.heap.size wr _ by (repeat (first | (with_reducible exact Below.refl _ _) | (with_reducible assumption) | (with_reducible apply below_drewN) | (with_reducible apply Below.drew) | ((with_reducible refine Below.setCell ?_ ?_ _); rotate_left; focus (first | (simp; done) | (simp; omega) | omega)) | ((with_reducible refine Below.alloc ?_ ?_ _); rotate_left; focus (first | (simp; done) | (simp; omega) | omega))))).trans (hb.mono (by first | (simp; done) | (simp; omega) | omega)); clear hb))
            have hb1 := hbel2.trans (hB1.mono hbel2.size)
            go_wp2_with fail
            go_roundw
            case rel => exact ⟨j + 1, by omega, by go_num, HN2.out, hb1⟩
            case measure => simp [intOf]; omega
          · rw [hP] at HC
            have HF : Hid (R = true) := HYX.out hP
            clear hP HNX HYX
            go_wp2_with fail
            go_region_held3 (fun w0 => w0.cell? ⟨g1, k * 2, none⟩ = some (.string x.coll) ∧ w0.cell? ⟨g1, k * 2 + 1, none⟩ = some (.slice (some ⟨gx, 0, none⟩) x.f.length x.f.length) ∧ w0.cell? ⟨g2, j * 10, none⟩ = some (.string y.wr.coll) ∧ w0.cell? ⟨g2, j * 10 + 1, none⟩ = some (.int .i64 y.wr.id) ∧ w0.cell? ⟨g2, j * 10 + 2, none⟩ = some (.bool y.wr.gone) ∧ w0.cell? ⟨g2, j * 10 + 3, none⟩ = some (.int .i64 y.wr.doc.k) ∧ w0.cell? ⟨g2, j * 10 + 4, none⟩ = some (.int .i64 y.wr.doc.n) ∧ w0.cell? ⟨g2, j * 10 + 5, none⟩ = some (.string y.wr.doc.t) ∧ w0.cell? ⟨g2, j * 10 + 6, none⟩ = some (.int .i64 y.bef.k) ∧ w0.cell? ⟨g2, j * 10 + 7, none⟩ = some (.int .i64 y.bef.n) ∧ w0.cell? ⟨g2, j * 10 + 8, none⟩ = some (.string y.bef.t) ∧ w0.cell? ⟨g2, j * 10 + 9, none⟩ = some (.bool y.was)) ((refine keepHt l1 l2 f0 f1 f2 f3 f4 f5 f6 f7 f8 f9 f10 f11 ?_; (repeat (first | (with_reducible exact Below.refl _ _) | (with_reducible assumption) | (with_reducible apply below_drewN) | (with_reducible apply Below.drew) | ((with_reducible refine Below.setCell ?_ ?_ _); rotate_left; focus (first | (simp; done) | (simp; omega) | omega)) | ((with_reducible refine Below.alloc ?_ ?_ _); rotate_left; focus (first | (simp; done) | (simp; omega) | omega)))))) ((go_at_call 71; refine (HC.out _ (by (repeat (first | (with_reducible exact Below.refl _ _) | (with_reducible assumption) | (with_reducible apply below_drewN) | (with_reducible apply Below.drew) | ((with_reducible refine Below.setCell ?_ ?_ _); rotate_left; focus (first | (simp; done) | (simp; omega) | omega)) | ((with_reducible refine Below.alloc ?_ ?_ _); rotate_left; focus (first | (simp; done) | (simp; omega) | omega)))))).mono ?_; rintro e w1 ⟨rfl, hb⟩; have hB1 : Below wr.heap.size wr w1 := (show Below wr.heap.size wr _ by (repeat (first | (with_reducible exact Below.refl _ _) | (with_reducible assumption) | (with_reducible apply below_drewN) | (with_reducible apply Below.drew) | ((with_reducible refine Below.setCell ?_ ?_ _); rotate_left; focus (first | (simp; done) | (simp; omega) | omega)) | ((with_reducible refine Below.alloc ?_ ?_ _); rotate_left; focus (first | (simp; done) | (simp; omega) | omega))))).trans (hb.mono (by first | (simp; done) | (simp; omega) | omega)); clear hb))
            have hb1 := hbel2.trans (hB1.mono hbel2.size)
            go_wp2_with fail
            go_ret
            exact ⟨by rw [HF.out]; rfl, hb1⟩
        · have hlt4 : ¬ (j : Int) < (cs.length : Int) := by omega
          have HG2 : Hid (∀ u ∈ rs.take (k + 1), cs.any (hitB u) = false) := HGOOD.out (by
            rw [Bool.eq_false_iff]; intro hh
            obtain ⟨v, hv, hv2⟩ := List.any_eq_true.1 hh
            rw [HN.out v (by rw [List.take_of_length_le (by omega)]; exact hv)] at hv2; cases hv2)
          go_wp2_with fail
          go_roundw
          case rel => exact ⟨k + 1, by omega, by go_num, HG2.out, hbel2⟩
          case measure => simp [intOf]; omega
    · have hlt2 : ¬ (k : Int) < (rs.length : Int) := by omega
      have HF : Hid (R = false) := HNO.out (fun u hu => HA.out u (by rw [List.take_of_length_le (by omega)]; exact hu))
      go_wp2_with fail
      go_ret
      exact ⟨by rw [HF.out]; rfl, hbel⟩

theorem bel2 (w : World) (a b : Array Value) (T U : TypeId) : Below w.heap.size w ((w.alloc (.cells a T)).alloc (.cells b U)) := ((Below.refl _ _).alloc (Nat.le_refl _) _).alloc (by simp) _

set_option maxRecDepth 4000 in
set_option maxHeartbeats 2000000 in
theorem readsHangOn_any (xs xt ys yt : Int) (xi xo yi yo : Bool) (xr xc yr yc : Value) (g1 g2 c1 c2 b1 : Nat) (rs : List Rdg) (cs : List Cgr) (hxr : xr = .slice (some ⟨g1, 0, none⟩) rs.length c1) (hyc : yc = .slice (some ⟨g2, 0, none⟩) cs.length c2) (w : World) (h1 : MadeRd w b1 g1 rs) (h2 : ReadCg w g2 cs) (hl1 : rs.length ≤ 1048576) (hl2 : cs.length ≤ 1048576) (ho1 : ∀ v ∈ rs, okR v = true) (ho2 : ∀ v ∈ cs, okCg v = true) (hxc : ∃ p n m, xc = .slice p n m) (hyr : ∃ p n m, yr = .slice p n m) :
    Calls Tryz.prog 83 #[.agg #[.int .i64 xs, .int .i64 xt, xr, xc, .bool xi, .bool xo], .agg #[.int .i64 ys, .int .i64 yt, yr, yc, .bool yi, .bool yo]] w fun e w' => e = .returned (.bool (hitsB rs cs)) ∧ Below w.heap.size w w' := by
  obtain ⟨p3, n3, m3, rfl⟩ := hxc
  obtain ⟨p4, n4, m4, rfl⟩ := hyr
  subst hxr hyc
  have HC : Hid (∀ W : World, Below w.heap.size w W → Calls _ _ _ W _) := fun W hW => somePair_any g1 g2 c1 c2 b1 rs cs W (h1.next hW) (h2.next hW) hl1 hl2 ho1 ho2
  clear h1 h2 ho1 ho2
  go_enter Tryz.func83, Tryz.ntmps83
  go_wp2_with fail
  have hb0 := bel2 w #[.int .i64 xs, .int .i64 xt, .slice (some ⟨g1, 0, none⟩) rs.length c1, .slice p3 n3 m3, .bool xi, .bool xo] #[.int .i64 ys, .int .i64 yt, .slice p4 n4 m4, .slice (some ⟨g2, 0, none⟩) cs.length c2, .bool yi, .bool yo] 36 36
  refine (HC.out _ hb0).mono ?_
  rintro e w1 ⟨rfl, hb⟩
  have hbw := hb0.trans (hb.mono hb0.size)
  clear hb
  go_wp2_with fail
  go_ret
  exact ⟨rfl, hbw⟩

/-- Whether one must come ahead of another. -/
def aheadB (xs xt ys yt : Int) (rs : List Rdg) (cs : List Cgr) : Bool := decide (xt ≤ ys) || (decide (xs < yt) && hitsB rs cs)

set_option maxRecDepth 4000 in
set_option maxHeartbeats 1000000 in
theorem isPivot_any (xs xt : Int) (xr xc : Value) (xi xo : Bool) (w : World) :
    Calls Tryz.prog 50 #[.agg #[.int .i64 xs, .int .i64 xt, xr, xc, .bool xi, .bool xo]] w fun e w' => e = .returned (.bool (xi && xo)) ∧ Below w.heap.size w w' := by
  have hb0 : Below w.heap.size w (w.alloc (.cells #[.int .i64 xs, .int .i64 xt, xr, xc, .bool xi, .bool xo] 36)) := (Below.refl _ _).alloc (Nat.le_refl _) _
  cases xi
  all_goals
    go_enter Tryz.func50, Tryz.ntmps50
    go_wp2_with fail
    go_ret
    exact ⟨rfl, hb0⟩

end Go.Proofs.YtcggkeleaepebaaGreatDoor.Ce
