import Derived.Test.YtgjknfbkkfidbaaGreatDoorRowTQ
import Derived.Test.YtgjknfbkkfidbaaGreatDoorTermUQ
import Derived.Deep.Slices
import Derived.Deep.Strs
import Derived.ChangeSame
import Derived.Lib.SmallJoins
import Derived.OpenShut
import Derived.Deep.RegionHeld3
/- What holding a document to a filter answers, by the program and by the specification, for every right filter and document. -/
namespace Go.Proofs.YtgjknfbkkfidbaaGreatDoor
open Go.RowKit
set_option linter.unusedVariables false

/-- Does a term, does a clause let in a document. -/
def oneL (doc : Val) (t : Trm) : Bool := termL t.op t.p t.c doc
def clauseL (doc : Val) (l : List Trm) : Bool := l.all (oneL doc)
/-- Does a filter let in a document. -/
def filtL (doc : Val) (f : List (List Trm)) : Bool := f.any (clauseL doc)
theorem clause_not (doc : Val) (l : List Trm) : clauseL doc l = !(l.any (fun t => !(oneL doc t))) := by
  unfold clauseL; rw [List.not_any_eq_all_not]; simp
theorem okT_parts (t : Trm) (h : okT t = true) : t.p.size ≤ 300 ∧ okB t.c = true ∧ (1 ≤ t.op ∧ t.op ≤ 10) ∧ (t.op = 7 → t.c.k = 4) := by
  obtain ⟨h1, h2, h3, h4⟩ := termB_parts t.op t.p t.c h
  exact ⟨by omega, h2, h3, h4⟩
/-- One cell in the first new block, three in the second. -/
structure B13 (w W : World) (a x y z : Value) : Prop where
  bel : Below w.heap.size w W
  lt : w.heap.size + 1 < W.heap.size
  c0 : W.cell? ⟨w.heap.size, 0, none⟩ = some a
  d0 : W.cell? ⟨w.heap.size + 1, 0, none⟩ = some x
  d1 : W.cell? ⟨w.heap.size + 1, 1, none⟩ = some y
  d2 : W.cell? ⟨w.heap.size + 1, 2, none⟩ = some z
theorem B13.start (w : World) (a x y z : Value) (T U : TypeId) : B13 w ((w.alloc (.cells #[a] T)).alloc (.cells #[x, y, z] U)) a x y z :=
  ⟨((Below.refl _ _).alloc (Nat.le_refl _) _).alloc (by simp) _, by simp, by simp [go_sem], by simp [go_sem], by simp [go_sem], by simp [go_sem]⟩
theorem B13.step {w W W' : World} {a x y z : Value} (h : B13 w W a x y z) (hb : Below W.heap.size W W') : B13 w W' a x y z :=
  have hl : w.heap.size < W.heap.size := Nat.lt_of_succ_lt h.lt
  ⟨h.bel.trans (hb.mono h.bel.size), Nat.lt_of_lt_of_le h.lt hb.size, (hb.cell hl).trans h.c0, (hb.cell h.lt).trans h.d0, (hb.cell h.lt).trans h.d1, (hb.cell h.lt).trans h.d2⟩
/-- A document lies in a block. -/
structure DocIn (W : World) (b : Nat) (v : Val) : Prop where
  lt : b < W.heap.size
  c0 : W.cell? ⟨b, 0, none⟩ = some (.int .i64 v.k)
  c1 : W.cell? ⟨b, 1, none⟩ = some (.int .i64 v.n)
  c2 : W.cell? ⟨b, 2, none⟩ = some (.string v.t)
theorem DocIn.step {W W' : World} {b : Nat} {v : Val} (h : DocIn W b v) (hb : Below W.heap.size W W') : DocIn W' b v :=
  ⟨Nat.lt_of_lt_of_le h.lt hb.size, (hb.cell h.lt).trans h.c0, (hb.cell h.lt).trans h.c1, (hb.cell h.lt).trans h.c2⟩

set_option maxRecDepth 4000 in
set_option maxHeartbeats 1000000 in
theorem clauseOne_any (b : Nat) (doc : Val) (t : Trm) (w : World) (hd : okB doc = true) (ht : okT t = true) (hI : DocIn w b doc) :
    Calls Tryz.prog 198 #[.agg #[.int .i64 t.op, .string t.p, .int .i64 t.c.k, .int .i64 t.c.n, .string t.c.t], .pointer (some ⟨b, 0, none⟩)] w fun e w' => e = .returned (.bool (!(oneL doc t))) ∧ Below w.heap.size w w' := by
  have X0 := Box5.start w (.int .i64 t.op) (.string t.p) (.int .i64 t.c.k) (.int .i64 t.c.n) (.string t.c.t) 54
  have I0 := hI.step X0.bel
  obtain ⟨p1, p2, p3, p4⟩ := okT_parts t ht
  have HC : Hid (∀ W : World, Calls _ _ _ W _) := fun W => termLets_any t.op t.p t.c doc W p1 p3 p4 p2 hd
  have e1 : termL t.op t.p t.c doc = oneL doc t := rfl
  rw [e1] at HC
  obtain ⟨R, hR⟩ : ∃ R, R = oneL doc t := ⟨_, rfl⟩
  rw [← hR] at HC ⊢
  clear e1
  have a0 := I0.c0
  have a1 := I0.c1
  have a2 := I0.c2
  have hlt := hI.lt
  clear hI I0 hR p1 p2 p3 p4 ht hd
  go_enter Tryz.func198, Tryz.ntmps198
  go_wp2_with fail
  refine (HC.out _).mono ?_
  rintro e w1 ⟨rfl, hb⟩
  have hbw := (X0.step hb).bel
  clear hb
  go_wp2_with fail
  go_ret
  exact ⟨ret_bool (by simp), hbw⟩

set_option maxRecDepth 4000 in
set_option maxHeartbeats 1000000 in
theorem idxTermK (b : Nat) (q : Option Addr) (qc : Nat) (l : List Trm) (P : Trm → Bool) (w : World) (HC : ∀ v ∈ l, ∀ W : World, Below w.heap.size w W → Calls Tryz.prog 198 #[.agg #[.int .i64 v.op, .string v.p, .int .i64 v.c.k, .int .i64 v.c.n, .string v.c.t], .pointer (some ⟨b, 0, none⟩)] W fun e w' => e = .returned (.bool (P v)) ∧ Below W.heap.size W w') (hr : RowT w q l) (hl : l.length ≤ 1048576) :
    Calls Tryz.prog 197 #[.slice q l.length qc, .func (.func 198) #[] #[.pointer (some ⟨b, 0, none⟩)]] w fun e w' => (∃ i : Int, e = .returned (.int .i64 i) ∧ decide (0 ≤ i) = l.any P) ∧ Below w.heap.size w w' := by
  have HR : Hid (RowT _ _ _) := hr
  have HF : Hid _ := HC
  clear hr HC
  go_enter Tryz.func197, Tryz.ntmps197
  go_wp2_with fail
  go_loopw [8] (fun i wr => ∃ k : Nat, k ≤ l.length ∧ i = .int .i64 k ∧ (∀ u ∈ l.take k, P u = false) ∧ Below w.heap.size w wr) (fun i _ => l.length - (intOf i).toNat)
  case atStart => exact ⟨0, Nat.zero_le _, rfl, fun u hu => by simp at hu, Below.refl _ _⟩
  case round =>
    obtain ⟨k, hk, rfl, hall, hbel⟩ := hrel
    have HA : Hid _ := hall
    clear hall
    by_cases hlt : k < l.length
    · rcases HR.out.next hbel with h0 | ⟨g, rfl, R⟩
      · subst h0; simp at hlt
      obtain ⟨x0, x1, x2, x3, x4⟩ := R.cells k hlt
      have hlt2 : (k : Int) < (l.length : Int) := by omega
      have HK0 := HF.out l[k] (List.getElem_mem _) _ hbel
      cases hP : P l[k]
      · rw [hP] at HK0
        have HK : Hid (Calls _ _ _ _ _) := HK0
        have HPK : Hid _ := hP
        clear R hP HK0
        go_wp2_with fail
        refine HK.out.mono ?_
        rintro e w1 ⟨rfl, hb⟩
        have hb1 := hbel.trans (hb.mono hbel.size)
        clear hb HK
        go_wp2_with fail
        go_roundw
        case rel =>
          refine ⟨k + 1, by omega, by go_num, ?_, hb1⟩
          intro u hu
          rw [List.take_succ_eq_append_getElem hlt] at hu
          rcases List.mem_append.mp hu with h | h
          · exact HA.out u h
          · simp at h; subst h; exact HPK.out
        case measure => simp [intOf]; omega
      · rw [hP] at HK0
        have HK : Hid (Calls _ _ _ _ _) := HK0
        have hal : l.any P = true := List.any_eq_true.mpr ⟨l[k], List.getElem_mem _, hP⟩
        have HL : Hid _ := hal
        clear R hP HK0 hal
        go_wp2_with fail
        refine HK.out.mono ?_
        rintro e w1 ⟨rfl, hb⟩
        have hb1 := hbel.trans (hb.mono hbel.size)
        clear hb HK
        go_wp2_with fail
        go_ret
        exact ⟨⟨k, rfl, by rw [HL.out]; exact decide_eq_true (by omega)⟩, hb1⟩
    · have hlt2 : ¬ (k : Int) < (l.length : Int) := by omega
      have hal : l.any P = false := by
        rw [Bool.eq_false_iff]; intro hh
        obtain ⟨u, hu, he⟩ := List.any_eq_true.mp hh
        have := HA.out u (by rw [List.take_of_length_le (by omega)]; exact hu)
        rw [this] at he; cases he
      have HL : Hid _ := hal
      clear hal
      go_wp2_with fail
      go_ret
      exact ⟨⟨-1, rfl, by rw [HL.out]; rfl⟩, hbel⟩
set_option maxRecDepth 4000 in
set_option maxHeartbeats 1000000 in
theorem conTermK (b : Nat) (q : Option Addr) (qc : Nat) (l : List Trm) (P : Trm → Bool) (w : World) (HC : ∀ v ∈ l, ∀ W : World, Below w.heap.size w W → Calls Tryz.prog 198 #[.agg #[.int .i64 v.op, .string v.p, .int .i64 v.c.k, .int .i64 v.c.n, .string v.c.t], .pointer (some ⟨b, 0, none⟩)] W fun e w' => e = .returned (.bool (P v)) ∧ Below W.heap.size W w') (hr : RowT w q l) (hl : l.length ≤ 1048576) :
    Calls Tryz.prog 144 #[.slice q l.length qc, .func (.func 198) #[] #[.pointer (some ⟨b, 0, none⟩)]] w fun e w' => e = .returned (.bool (l.any P)) ∧ Below w.heap.size w w' := by
  have HI : Hid (Calls _ _ _ _ _) := idxTermK b q qc l P w HC hr hl
  clear HC hr
  go_enter Tryz.func144, Tryz.ntmps144
  go_wp2_with fail
  refine HI.out.mono ?_
  rintro e w1 ⟨⟨i, rfl, hi⟩, hb⟩
  have HJ : Hid _ := hi
  clear hi HI
  go_wp2_with fail
  go_ret
  exact ⟨ret_bool HJ.out, hb⟩

set_option maxRecDepth 4000 in
set_option maxHeartbeats 1000000 in
theorem clauseLets_any (p : Option Addr) (cap : Nat) (l : List Trm) (doc : Val) (w : World) (hr : RowT w p l) (hl : l.length ≤ 1048576) (hd : okB doc = true) (ht : ∀ t ∈ l, okT t = true) :
    Calls Tryz.prog 147 #[.agg #[.slice p l.length cap], .agg #[.int .i64 doc.k, .int .i64 doc.n, .string doc.t]] w fun e w' => e = .returned (.bool (clauseL doc l)) ∧ Below w.heap.size w w' := by
  have X0 := B13.start w (.slice p l.length cap) (.int .i64 doc.k) (.int .i64 doc.n) (.string doc.t) 105 24
  have hmf := mk_func
  rw [clause_not]
  have I0 : DocIn ((w.alloc (.cells #[.slice p l.length cap] 105)).alloc (.cells #[.int .i64 doc.k, .int .i64 doc.n, .string doc.t] 24)) (w.heap.size + 1) doc := ⟨X0.lt, X0.d0, X0.d1, X0.d2⟩
  have HI : Hid (Calls _ _ _ _ _) := conTermK (w.heap.size + 1) p cap l (fun t => !(oneL doc t)) _ (fun v hv W hW => clauseOne_any (w.heap.size + 1) doc v W hd (ht v hv) (I0.step hW)) (hr.next X0.bel) hl
  obtain ⟨R, hR⟩ : ∃ R, R = l.any (fun t => !(oneL doc t)) := ⟨_, rfl⟩
  rw [← hR] at HI ⊢
  clear hr ht I0 hR
  go_enter Tryz.func147, Tryz.ntmps147
  go_wp2_with fail
  refine HI.out.mono ?_
  rintro e w1 ⟨rfl, hb⟩
  have hbw := (X0.step hb).bel
  clear HI hb
  go_wp2_with fail
  go_ret
  exact ⟨ret_bool (by simp), hbw⟩

set_option maxRecDepth 4000 in
set_option maxHeartbeats 1000000 in
theorem filterOne_any (b : Nat) (p : Option Addr) (cap : Nat) (l : List Trm) (doc : Val) (w : World) (hr : RowT w p l) (hl : l.length ≤ 1048576) (hd : okB doc = true) (ht : ∀ t ∈ l, okT t = true) (hI : DocIn w b doc) :
    Calls Tryz.prog 146 #[.agg #[.slice p l.length cap], .pointer (some ⟨b, 0, none⟩)] w fun e w' => e = .returned (.bool (clauseL doc l)) ∧ Below w.heap.size w w' := by
  have hb0 : Below w.heap.size w (w.alloc (.cells #[.slice p l.length cap] 105)) := (Below.refl _ _).alloc (Nat.le_refl _) _
  have I0 := hI.step hb0
  have HC : Hid (Calls _ _ _ _ _) := clauseLets_any p cap l doc (w.alloc (.cells #[.slice p l.length cap] 105)) (hr.next hb0) hl hd ht
  have a0 := I0.c0
  have a1 := I0.c1
  have a2 := I0.c2
  have hlt := hI.lt
  clear hr ht hI I0
  go_enter Tryz.func146, Tryz.ntmps146
  go_wp2_with fail
  refine HC.out.mono ?_
  rintro e w1 ⟨rfl, hb⟩
  have hbw := hb0.trans (hb.mono hb0.size)
  clear hb
  go_wp2_with fail
  go_ret
  exact ⟨rfl, hbw⟩

set_option maxRecDepth 4000 in
set_option maxHeartbeats 1000000 in
theorem idxClauseK (b : Nat) (q : Option Addr) (qc : Nat) (l : List (List Trm)) (P : (List Trm) → Bool) (w : World) (HC : ∀ v ∈ l, ∀ (pk : Option Addr) (ck : Nat) (W : World), Below w.heap.size w W → RowT W pk v → Calls Tryz.prog 146 #[.agg #[.slice pk v.length ck], .pointer (some ⟨b, 0, none⟩)] W fun e w' => e = .returned (.bool (P v)) ∧ Below W.heap.size W w') (hr : RowC w q l) (hl : l.length ≤ 1048576) :
    Calls Tryz.prog 137 #[.slice q l.length qc, .func (.func 146) #[] #[.pointer (some ⟨b, 0, none⟩)]] w fun e w' => (∃ i : Int, e = .returned (.int .i64 i) ∧ decide (0 ≤ i) = l.any P) ∧ Below w.heap.size w w' := by
  have HR : Hid (RowC _ _ _) := hr
  have HF : Hid _ := HC
  clear hr HC
  go_enter Tryz.func137, Tryz.ntmps137
  go_wp2_with fail
  go_loopw [8] (fun i wr => ∃ k : Nat, k ≤ l.length ∧ i = .int .i64 k ∧ (∀ u ∈ l.take k, P u = false) ∧ Below w.heap.size w wr) (fun i _ => l.length - (intOf i).toNat)
  case atStart => exact ⟨0, Nat.zero_le _, rfl, fun u hu => by simp at hu, Below.refl _ _⟩
  case round =>
    obtain ⟨k, hk, rfl, hall, hbel⟩ := hrel
    have HA : Hid _ := hall
    clear hall
    by_cases hlt : k < l.length
    · rcases HR.out.next hbel with h0 | ⟨g, rfl, R⟩
      · subst h0; simp at hlt
      obtain ⟨pk, ck, x0, xr⟩ := R.cells k hlt
      have hlt2 : (k : Int) < (l.length : Int) := by omega
      have HK0 := HF.out l[k] (List.getElem_mem _) pk ck _ hbel xr
      cases hP : P l[k]
      · rw [hP] at HK0
        have HK : Hid (Calls _ _ _ _ _) := HK0
        have HPK : Hid _ := hP
        clear R hP HK0 xr
        go_wp2_with fail
        refine HK.out.mono ?_
        rintro e w1 ⟨rfl, hb⟩
        have hb1 := hbel.trans (hb.mono hbel.size)
        clear hb HK
        go_wp2_with fail
        go_roundw
        case rel =>
          refine ⟨k + 1, by omega, by go_num, ?_, hb1⟩
          intro u hu
          rw [List.take_succ_eq_append_getElem hlt] at hu
          rcases List.mem_append.mp hu with h | h
          · exact HA.out u h
          · simp at h; subst h; exact HPK.out
        case measure => simp [intOf]; omega
      · rw [hP] at HK0
        have HK : Hid (Calls _ _ _ _ _) := HK0
        have hal : l.any P = true := List.any_eq_true.mpr ⟨l[k], List.getElem_mem _, hP⟩
        have HL : Hid _ := hal
        clear R hP HK0 hal xr
        go_wp2_with fail
        refine HK.out.mono ?_
        rintro e w1 ⟨rfl, hb⟩
        have hb1 := hbel.trans (hb.mono hbel.size)
        clear hb HK
        go_wp2_with fail
        go_ret
        exact ⟨⟨k, rfl, by rw [HL.out]; exact decide_eq_true (by omega)⟩, hb1⟩
    · have hlt2 : ¬ (k : Int) < (l.length : Int) := by omega
      have hal : l.any P = false := by
        rw [Bool.eq_false_iff]; intro hh
        obtain ⟨u, hu, he⟩ := List.any_eq_true.mp hh
        have := HA.out u (by rw [List.take_of_length_le (by omega)]; exact hu)
        rw [this] at he; cases he
      have HL : Hid _ := hal
      clear hal
      go_wp2_with fail
      go_ret
      exact ⟨⟨-1, rfl, by rw [HL.out]; rfl⟩, hbel⟩
set_option maxRecDepth 4000 in
set_option maxHeartbeats 1000000 in
theorem conClauseK (b : Nat) (q : Option Addr) (qc : Nat) (l : List (List Trm)) (P : (List Trm) → Bool) (w : World) (HC : ∀ v ∈ l, ∀ (pk : Option Addr) (ck : Nat) (W : World), Below w.heap.size w W → RowT W pk v → Calls Tryz.prog 146 #[.agg #[.slice pk v.length ck], .pointer (some ⟨b, 0, none⟩)] W fun e w' => e = .returned (.bool (P v)) ∧ Below W.heap.size W w') (hr : RowC w q l) (hl : l.length ≤ 1048576) :
    Calls Tryz.prog 78 #[.slice q l.length qc, .func (.func 146) #[] #[.pointer (some ⟨b, 0, none⟩)]] w fun e w' => e = .returned (.bool (l.any P)) ∧ Below w.heap.size w w' := by
  have HI : Hid (Calls _ _ _ _ _) := idxClauseK b q qc l P w HC hr hl
  clear HC hr
  go_enter Tryz.func78, Tryz.ntmps78
  go_wp2_with fail
  refine HI.out.mono ?_
  rintro e w1 ⟨⟨i, rfl, hi⟩, hb⟩
  have HJ : Hid _ := hi
  clear hi HI
  go_wp2_with fail
  go_ret
  exact ⟨ret_bool HJ.out, hb⟩

set_option maxRecDepth 4000 in
set_option maxHeartbeats 1000000 in
theorem filterLets_any (p : Option Addr) (cap : Nat) (f : List (List Trm)) (doc : Val) (w : World) (hr : RowC w p f) (hl : f.length ≤ 1048576) (hd : okB doc = true) (ht : ∀ l ∈ f, l.length ≤ 1048576 ∧ ∀ t ∈ l, okT t = true) :
    Calls Tryz.prog 86 #[.agg #[.slice p f.length cap], .agg #[.int .i64 doc.k, .int .i64 doc.n, .string doc.t]] w fun e w' => e = .returned (.bool (filtL doc f)) ∧ Below w.heap.size w w' := by
  have X0 := B13.start w (.slice p f.length cap) (.int .i64 doc.k) (.int .i64 doc.n) (.string doc.t) 45 24
  have hmf := mk_func
  unfold filtL
  have I0 : DocIn ((w.alloc (.cells #[.slice p f.length cap] 45)).alloc (.cells #[.int .i64 doc.k, .int .i64 doc.n, .string doc.t] 24)) (w.heap.size + 1) doc := ⟨X0.lt, X0.d0, X0.d1, X0.d2⟩
  have HI : Hid (Calls _ _ _ _ _) := conClauseK (w.heap.size + 1) p cap f (clauseL doc) _ (fun v hv pk ck W hW hT => filterOne_any (w.heap.size + 1) pk ck v doc W hT (ht v hv).1 hd (ht v hv).2 (I0.step hW)) (hr.next X0.bel) hl
  obtain ⟨R, hR⟩ : ∃ R, R = f.any (clauseL doc) := ⟨_, rfl⟩
  rw [← hR] at HI ⊢
  clear hr ht I0 hR
  go_enter Tryz.func86, Tryz.ntmps86
  go_wp2_with fail
  refine HI.out.mono ?_
  rintro e w1 ⟨rfl, hb⟩
  have hbw := (X0.step hb).bel
  clear HI hb
  go_wp2_with fail
  go_ret
  exact ⟨rfl, hbw⟩

set_option maxRecDepth 4000 in
set_option maxHeartbeats 2000000 in
theorem l03Clause_any (p : Option Addr) (cap : Nat) (l : List Trm) (doc : Val) (w : World) (hr : RowT w p l) (hl : l.length ≤ 1048576) (hd : okB doc = true) (ht : ∀ t ∈ l, okT t = true) :
    Calls Tryz.prog 148 #[.agg #[.slice p l.length cap], .agg #[.int .i64 doc.k, .int .i64 doc.n, .string doc.t]] w fun e w' => e = .returned (.bool (clauseL doc l)) ∧ Below w.heap.size w w' := by
  have X0 := B13.start w (.slice p l.length cap) (.int .i64 doc.k) (.int .i64 doc.n) (.string doc.t) 105 24
  obtain ⟨RR, hRR⟩ : ∃ RR, RR = clauseL doc l := ⟨_, rfl⟩
  rw [← hRR]
  have HRR : Hid _ := hRR
  have HT : Hid _ := ht
  have HR : Hid (RowT _ _ _) := hr.next X0.bel
  have HD : Hid (okB doc = true) := hd
  clear hr ht hd hRR
  go_enter Tryz.func148, Tryz.ntmps148
  go_wp2_with fail
  generalize (w.alloc (.cells #[.slice p l.length cap] 105)).alloc (.cells #[.int .i64 doc.k, .int .i64 doc.n, .string doc.t] 24) = W0 at X0 HR ⊢
  go_loopw [5] (fun i wr => ∃ k : Nat, k ≤ l.length ∧ i = .int .i64 k ∧ (∀ u ∈ l.take k, oneL doc u = true) ∧ Below W0.heap.size W0 wr) (fun i _ => l.length - (intOf i).toNat)
  case atStart => exact ⟨0, Nat.zero_le _, rfl, (fun u hu => by simp at hu), Below.refl _ _⟩
  case round =>
    obtain ⟨k, hk, rfl, hall, hbel⟩ := hrel
    have HA : Hid _ := hall
    have Y := X0.step hbel
    have hbw := Y.bel
    have y0 := Y.c0
    have hl2 := Y.lt
    have hl1 : w.heap.size < wr.heap.size := Nat.lt_of_succ_lt hl2
    clear hall
    by_cases hlt : k < l.length
    · rcases HR.out.next hbel with h0 | ⟨g, rfl, R⟩
      · subst h0; simp at hlt
      have hgl := R.lt
      have hlt2 : (k : Int) < (l.length : Int) := by omega
      obtain ⟨x0, x1, x2, x3, x4⟩ := R.cells k hlt
      have z0 : ∀ u : Under wr, u.x.cell? ⟨w.heap.size, 0, none⟩ = some (.slice (some ⟨g, 0, none⟩) l.length cap) := fun u => (u.h.cell hl1).trans y0
      have d0 : ∀ u : Under wr, u.x.cell? ⟨w.heap.size + 1, 0, none⟩ = some (.int .i64 doc.k) := fun u => (u.h.cell hl2).trans Y.d0
      have d1 : ∀ u : Under wr, u.x.cell? ⟨w.heap.size + 1, 1, none⟩ = some (.int .i64 doc.n) := fun u => (u.h.cell hl2).trans Y.d1
      have d2 : ∀ u : Under wr, u.x.cell? ⟨w.heap.size + 1, 2, none⟩ = some (.string doc.t) := fun u => (u.h.cell hl2).trans Y.d2
      have q0 : ∀ u : Under wr, u.x.cell? ⟨g, k * 5, none⟩ = some (.int .i64 l[k].op) := fun u => (u.h.cell hgl).trans x0
      have q1 : ∀ u : Under wr, u.x.cell? ⟨g, k * 5 + 1, none⟩ = some (.string l[k].p) := fun u => (u.h.cell hgl).trans x1
      have q2 : ∀ u : Under wr, u.x.cell? ⟨g, k * 5 + 2, none⟩ = some (.int .i64 l[k].c.k) := fun u => (u.h.cell hgl).trans x2
      have q3 : ∀ u : Under wr, u.x.cell? ⟨g, k * 5 + 3, none⟩ = some (.int .i64 l[k].c.n) := fun u => (u.h.cell hgl).trans x3
      have q4 : ∀ u : Under wr, u.x.cell? ⟨g, k * 5 + 4, none⟩ = some (.string l[k].c.t) := fun u => (u.h.cell hgl).trans x4
      have hnu : Nonempty (Under wr) := ⟨⟨wr, Below.refl _ _⟩⟩
      have HC0 : ∀ u : Under wr, Calls Tryz.prog 95 #[.agg #[.int .i64 l[k].op, .string l[k].p, .int .i64 l[k].c.k, .int .i64 l[k].c.n, .string l[k].c.t], .agg #[.int .i64 doc.k, .int .i64 doc.n, .string doc.t]] u.x fun e w' => e = .returned (.bool (oneL doc l[k])) ∧ Below u.x.heap.size u.x w' := fun u => by
        obtain ⟨p1, p2, p3, p4⟩ := okT_parts l[k] (HT.out l[k] (List.getElem_mem _))
        exact l03Term_any l[k].op l[k].p l[k].c doc u.x p1 p3 p4 p2 HD.out
      clear R Y x0 x1 x2 x3 x4
      cases hP : oneL doc l[k]
      · rw [hP] at HC0
        have HCU : Hid _ := HC0
        have hRf : RR = false := by
          rw [HRR.out, Bool.eq_false_iff]; intro hh
          have := List.all_eq_true.mp hh l[k] (List.getElem_mem _)
          rw [hP] at this; cases this
        clear HC0 hP HRR
        subst hRf
        go_wp2_with fail
        refine wp_region_under (by kernel_rfl) (by kernel_rfl) ?_
        repeat (go_big_quiet_step ((go_at_call 95; exact calls_under _ (HCU.out _))))
        refine wpQuiet_nil ?_
        rintro _ ⟨u, rfl⟩
        have hbu := hbw.trans (u.h.mono hbw.size)
        clear z0 d0 d1 d2 hnu
        go_wp2_with fail
        go_ret
        exact ⟨rfl, hbu⟩
      · rw [hP] at HC0
        have HCU : Hid _ := HC0
        have HPK : Hid _ := hP
        clear HC0 hP
        go_wp2_with fail
        refine wp_region_under (by kernel_rfl) (by kernel_rfl) ?_
        repeat (go_big_quiet_step ((go_at_call 95; exact calls_under _ (HCU.out _))))
        refine wpQuiet_nil ?_
        rintro _ ⟨u, rfl⟩
        have hbu := hbel.trans (u.h.mono hbel.size)
        clear z0 d0 d1 d2 hnu
        go_wp2_with fail
        go_roundw
        case rel =>
          refine ⟨k + 1, by omega, by go_num, ?_, hbu⟩
          intro u hu
          rw [List.take_succ_eq_append_getElem hlt] at hu
          rcases List.mem_append.mp hu with h | h
          · exact HA.out u h
          · simp at h; subst h; exact HPK.out
        case measure => simp [intOf]; omega
    · have hlt2 : ¬ (k : Int) < (l.length : Int) := by omega
      have hRt : RR = true := by
        rw [HRR.out]
        exact List.all_eq_true.mpr (fun u hu => HA.out u (by rw [List.take_of_length_le (by omega)]; exact hu))
      clear HRR Y
      subst hRt
      go_wp2_with fail
      go_ret
      exact ⟨rfl, hbw⟩

set_option maxRecDepth 4000 in
set_option maxHeartbeats 2000000 in
theorem l03Matches_any (p : Option Addr) (cap : Nat) (l : List (List Trm)) (doc : Val) (w : World) (hr : RowC w p l) (hl : l.length ≤ 1048576) (hd : okB doc = true) (ht : ∀ t ∈ l, t.length ≤ 1048576 ∧ ∀ v ∈ t, okT v = true) :
    Calls Tryz.prog 88 #[.agg #[.slice p l.length cap], .agg #[.int .i64 doc.k, .int .i64 doc.n, .string doc.t]] w fun e w' => e = .returned (.bool (filtL doc l)) ∧ Below w.heap.size w w' := by
  have X0 := B13.start w (.slice p l.length cap) (.int .i64 doc.k) (.int .i64 doc.n) (.string doc.t) 45 24
  obtain ⟨RR, hRR⟩ : ∃ RR, RR = filtL doc l := ⟨_, rfl⟩
  rw [← hRR]
  have HRR : Hid _ := hRR
  have HT : Hid _ := ht
  have HR : Hid (RowC _ _ _) := hr.next X0.bel
  have HD : Hid (okB doc = true) := hd
  clear hr ht hd hRR
  go_enter Tryz.func88, Tryz.ntmps88
  go_wp2_with fail
  generalize (w.alloc (.cells #[.slice p l.length cap] 45)).alloc (.cells #[.int .i64 doc.k, .int .i64 doc.n, .string doc.t] 24) = W0 at X0 HR ⊢
  go_loopw [5] (fun i wr => ∃ k : Nat, k ≤ l.length ∧ i = .int .i64 k ∧ (∀ u ∈ l.take k, clauseL doc u = false) ∧ Below W0.heap.size W0 wr) (fun i _ => l.length - (intOf i).toNat)
  case atStart => exact ⟨0, Nat.zero_le _, rfl, (fun u hu => by simp at hu), Below.refl _ _⟩
  case round =>
    obtain ⟨k, hk, rfl, hall, hbel⟩ := hrel
    have HA : Hid _ := hall
    have Y := X0.step hbel
    have hbw := Y.bel
    have y0 := Y.c0
    have hl2 := Y.lt
    have hl1 : w.heap.size < wr.heap.size := Nat.lt_of_succ_lt hl2
    clear hall
    by_cases hlt : k < l.length
    · rcases HR.out.next hbel with h0 | ⟨g, rfl, R⟩
      · subst h0; simp at hlt
      have hgl := R.lt
      have hlt2 : (k : Int) < (l.length : Int) := by omega
      obtain ⟨pk, ck, x0, xr⟩ := R.cells k hlt
      have z0 : ∀ u : Under wr, u.x.cell? ⟨w.heap.size, 0, none⟩ = some (.slice (some ⟨g, 0, none⟩) l.length cap) := fun u => (u.h.cell hl1).trans y0
      have d0 : ∀ u : Under wr, u.x.cell? ⟨w.heap.size + 1, 0, none⟩ = some (.int .i64 doc.k) := fun u => (u.h.cell hl2).trans Y.d0
      have d1 : ∀ u : Under wr, u.x.cell? ⟨w.heap.size + 1, 1, none⟩ = some (.int .i64 doc.n) := fun u => (u.h.cell hl2).trans Y.d1
      have d2 : ∀ u : Under wr, u.x.cell? ⟨w.heap.size + 1, 2, none⟩ = some (.string doc.t) := fun u => (u.h.cell hl2).trans Y.d2
      have q0 : ∀ u : Under wr, u.x.cell? ⟨g, k, none⟩ = some (.slice pk l[k].length ck) := fun u => (u.h.cell hgl).trans x0
      have hnu : Nonempty (Under wr) := ⟨⟨wr, Below.refl _ _⟩⟩
      have HC0 : ∀ u : Under wr, Calls Tryz.prog 148 #[.agg #[.slice pk l[k].length ck], .agg #[.int .i64 doc.k, .int .i64 doc.n, .string doc.t]] u.x fun e w' => e = .returned (.bool (clauseL doc l[k])) ∧ Below u.x.heap.size u.x w' := fun u => l03Clause_any pk ck l[k] doc u.x (xr.next u.h) (HT.out l[k] (List.getElem_mem _)).1 HD.out (HT.out l[k] (List.getElem_mem _)).2
      clear R Y x0 xr
      cases hP : clauseL doc l[k]
      · rw [hP] at HC0
        have HCU : Hid _ := HC0
        have HPK : Hid _ := hP
        clear HC0 hP
        go_wp2_with fail
        refine wp_region_under (by kernel_rfl) (by kernel_rfl) ?_
        repeat (go_big_quiet_step ((go_at_call 148; exact calls_under _ (HCU.out _))))
        refine wpQuiet_nil ?_
        rintro _ ⟨u, rfl⟩
        have hbu := hbel.trans (u.h.mono hbel.size)
        clear z0 d0 d1 d2 hnu
        go_wp2_with fail
        go_roundw
        case rel =>
          refine ⟨k + 1, by omega, by go_num, ?_, hbu⟩
          intro u hu
          rw [List.take_succ_eq_append_getElem hlt] at hu
          rcases List.mem_append.mp hu with h | h
          · exact HA.out u h
          · simp at h; subst h; exact HPK.out
        case measure => simp [intOf]; omega
      · rw [hP] at HC0
        have HCU : Hid _ := HC0
        have hRt : RR = true := by rw [HRR.out]; exact List.any_eq_true.mpr ⟨l[k], List.getElem_mem _, hP⟩
        clear HC0 hP HRR
        subst hRt
        go_wp2_with fail
        refine wp_region_under (by kernel_rfl) (by kernel_rfl) ?_
        repeat (go_big_quiet_step ((go_at_call 148; exact calls_under _ (HCU.out _))))
        refine wpQuiet_nil ?_
        rintro _ ⟨u, rfl⟩
        have hbu := hbw.trans (u.h.mono hbw.size)
        clear z0 d0 d1 d2 hnu
        go_wp2_with fail
        go_ret
        exact ⟨rfl, hbu⟩
    · have hlt2 : ¬ (k : Int) < (l.length : Int) := by omega
      have hRf : RR = false := by
        rw [HRR.out, Bool.eq_false_iff]; intro hh
        obtain ⟨u, hu, he⟩ := List.any_eq_true.mp hh
        have := HA.out u (by rw [List.take_of_length_le (by omega)]; exact hu)
        rw [this] at he; cases he
      clear HRR Y
      subst hRf
      go_wp2_with fail
      go_ret
      exact ⟨rfl, hbw⟩

/-- What holding a document to a filter comes to. -/
def matchF (doc : Val) (f : List (List Trm)) : Bool × Int := if filtB f = true ∧ docB doc = true then (filtL doc f, 0) else (false, 1)
set_option maxRecDepth 4000 in
set_option maxHeartbeats 1000000 in
theorem matches_any (p : Option Addr) (cap : Nat) (f : List (List Trm)) (doc : Val) (w : World) (hr : RowC w p f) (hl : f.length ≤ 1048576) (hs : ∀ l ∈ f, szC l) (hd : doc.t.size ≤ 1048576) :
    Calls Tryz.prog 33 #[.agg #[.slice p f.length cap], .agg #[.int .i64 doc.k, .int .i64 doc.n, .string doc.t]] w fun e w' => e = .returned (.tuple #[.bool (matchF doc f).1, .int .i64 (matchF doc f).2]) ∧ Below w.heap.size w w' := by
  have X0 := B13.start w (.slice p f.length cap) (.int .i64 doc.k) (.int .i64 doc.n) (.string doc.t) 45 24
  have HRC : Hid (RowC _ _ _) := hr.next X0.bel
  have HS : Hid _ := hs
  have HF : Hid (∀ W : World, RowC W p f → Calls _ _ _ W _) := fun W hW => filterOK_any p cap f W hW hl hs
  have HD : Hid (∀ W : World, Calls _ _ _ W _) := fun W => documentOK_any doc W hd
  clear hr hs
  cases hT : filtB f
  · have e : matchF doc f = (false, 1) := by unfold matchF; rw [if_neg (by rw [hT]; simp)]
    rw [e]
    rw [hT] at HF
    clear e hT
    go_enter Tryz.func33, Tryz.ntmps33
    go_wp2_with fail
    refine (HF.out _ HRC.out).mono ?_
    rintro e w1 ⟨rfl, hb⟩
    have hbw := (X0.step hb).bel
    clear hb
    go_wp2_with fail
    go_ret2
    exact ⟨rfl, hbw⟩
  rw [hT] at HF
  cases hD : docB doc
  · have e : matchF doc f = (false, 1) := by unfold matchF; rw [if_neg (by rw [hD]; simp)]
    rw [e]
    rw [hD] at HD
    clear e hT hD
    go_enter Tryz.func33, Tryz.ntmps33
    go_wp2_with fail
    refine (HF.out _ HRC.out).mono ?_
    rintro e w1 ⟨rfl, hb⟩
    have X1 := X0.step hb
    have b0 := X1.d0
    have b1 := X1.d1
    have b2 := X1.d2
    clear hb X0
    go_wp2_with fail
    refine (HD.out _).mono ?_
    rintro e w2 ⟨rfl, hb⟩
    have hbw := (X1.step hb).bel
    clear hb
    go_wp2_with fail
    go_ret2
    exact ⟨rfl, hbw⟩
  have e : matchF doc f = (filtL doc f, 0) := by unfold matchF; rw [if_pos ⟨hT, hD⟩]
  rw [e]
  rw [hD] at HD
  have hok : ∀ l ∈ f, l.length ≤ 1048576 ∧ ∀ t ∈ l, okT t = true := by
    intro l hl2
    unfold filtB at hT
    rw [Bool.and_eq_true] at hT
    have := List.all_eq_true.mp hT.2 l hl2
    unfold clauseB at this
    rw [Bool.and_eq_true] at this
    exact ⟨(HS.out l hl2).1, List.all_eq_true.mp this.2⟩
  have HL : Hid (∀ W : World, RowC W p f → Calls _ _ _ W _) := fun W hW => filterLets_any p cap f doc W hW hl (docB_ok doc hD) hok
  obtain ⟨R, hR⟩ : ∃ R, R = filtL doc f := ⟨_, rfl⟩
  rw [← hR] at HL ⊢
  clear e hT hD hok hR
  go_enter Tryz.func33, Tryz.ntmps33
  go_wp2_with fail
  refine (HF.out _ HRC.out).mono ?_
  rintro e w1 ⟨rfl, hb⟩
  have X1 := X0.step hb
  have HR1 : Hid (RowC _ _ _) := HRC.out.next hb
  have b0 := X1.d0
  have b1 := X1.d1
  have b2 := X1.d2
  clear hb X0 HRC
  go_wp2_with fail
  refine (HD.out _).mono ?_
  rintro e w2 ⟨rfl, hb⟩
  have X2 := X1.step hb
  have HR2 : Hid (RowC _ _ _) := HR1.out.next hb
  clear hb X1 b0 b1 b2 HR1
  have a0 := X2.c0
  have b0 := X2.d0
  have b1 := X2.d1
  have b2 := X2.d2
  go_wp2_with fail
  refine (HL.out _ HR2.out).mono ?_
  rintro e w3 ⟨rfl, hb⟩
  have hbw := (X2.step hb).bel
  clear hb
  go_wp2_with fail
  go_ret2
  exact ⟨rfl, hbw⟩

set_option maxRecDepth 4000 in
set_option maxHeartbeats 1000000 in
theorem specMatches_any (p : Option Addr) (cap : Nat) (f : List (List Trm)) (doc : Val) (w : World) (hr : RowC w p f) (hl : f.length ≤ 1048576) (hs : ∀ l ∈ f, szC l) (hd : doc.t.size ≤ 1048576) :
    Calls Tryz.prog 34 #[.agg #[.slice p f.length cap], .agg #[.int .i64 doc.k, .int .i64 doc.n, .string doc.t]] w fun e w' => e = .returned (.tuple #[.bool (matchF doc f).1, .int .i64 (matchF doc f).2]) ∧ Below w.heap.size w w' := by
  have X0 := B13.start w (.slice p f.length cap) (.int .i64 doc.k) (.int .i64 doc.n) (.string doc.t) 45 24
  have HRC : Hid (RowC _ _ _) := hr.next X0.bel
  have HS : Hid _ := hs
  have HF : Hid (∀ W : World, RowC W p f → Calls _ _ _ W _) := fun W hW => specFilt_any p cap f W hW hl hs
  have HD : Hid (∀ W : World, Calls _ _ _ W _) := fun W => l03Doc_any doc W hd
  clear hr hs
  cases hT : filtB f
  · have e : matchF doc f = (false, 1) := by unfold matchF; rw [if_neg (by rw [hT]; simp)]
    rw [e]
    rw [hT] at HF
    clear e hT
    go_enter Tryz.func34, Tryz.ntmps34
    go_wp2_with fail
    refine (HF.out _ HRC.out).mono ?_
    rintro e w1 ⟨rfl, hb⟩
    have hbw := (X0.step hb).bel
    clear hb
    go_wp2_with fail
    go_ret2
    exact ⟨rfl, hbw⟩
  rw [hT] at HF
  cases hD : docB doc
  · have e : matchF doc f = (false, 1) := by unfold matchF; rw [if_neg (by rw [hD]; simp)]
    rw [e]
    rw [hD] at HD
    clear e hT hD
    go_enter Tryz.func34, Tryz.ntmps34
    go_wp2_with fail
    refine (HF.out _ HRC.out).mono ?_
    rintro e w1 ⟨rfl, hb⟩
    have X1 := X0.step hb
    have b0 := X1.d0
    have b1 := X1.d1
    have b2 := X1.d2
    clear hb X0
    go_wp2_with fail
    refine (HD.out _).mono ?_
    rintro e w2 ⟨rfl, hb⟩
    have hbw := (X1.step hb).bel
    clear hb
    go_wp2_with fail
    go_ret2
    exact ⟨rfl, hbw⟩
  have e : matchF doc f = (filtL doc f, 0) := by unfold matchF; rw [if_pos ⟨hT, hD⟩]
  rw [e]
  rw [hD] at HD
  have hok : ∀ l ∈ f, l.length ≤ 1048576 ∧ ∀ t ∈ l, okT t = true := by
    intro l hl2
    unfold filtB at hT
    rw [Bool.and_eq_true] at hT
    have := List.all_eq_true.mp hT.2 l hl2
    unfold clauseB at this
    rw [Bool.and_eq_true] at this
    exact ⟨(HS.out l hl2).1, List.all_eq_true.mp this.2⟩
  have HL : Hid (∀ W : World, RowC W p f → Calls _ _ _ W _) := fun W hW => l03Matches_any p cap f doc W hW hl (docB_ok doc hD) hok
  obtain ⟨R, hR⟩ : ∃ R, R = filtL doc f := ⟨_, rfl⟩
  rw [← hR] at HL ⊢
  clear e hT hD hok hR
  go_enter Tryz.func34, Tryz.ntmps34
  go_wp2_with fail
  refine (HF.out _ HRC.out).mono ?_
  rintro e w1 ⟨rfl, hb⟩
  have X1 := X0.step hb
  have HR1 : Hid (RowC _ _ _) := HRC.out.next hb
  have b0 := X1.d0
  have b1 := X1.d1
  have b2 := X1.d2
  clear hb X0 HRC
  go_wp2_with fail
  refine (HD.out _).mono ?_
  rintro e w2 ⟨rfl, hb⟩
  have X2 := X1.step hb
  have HR2 : Hid (RowC _ _ _) := HR1.out.next hb
  clear hb X1 b0 b1 b2 HR1
  have a0 := X2.c0
  have b0 := X2.d0
  have b1 := X2.d1
  have b2 := X2.d2
  go_wp2_with fail
  refine (HL.out _ HR2.out).mono ?_
  rintro e w3 ⟨rfl, hb⟩
  have hbw := (X2.step hb).bel
  clear hb
  go_wp2_with fail
  go_ret2
  exact ⟨rfl, hbw⟩

end Go.Proofs.YtgjknfbkkfidbaaGreatDoor

/- A filter that comes in, opened: its clauses, each with its terms, at their places. -/
namespace Go.Proofs.YtgjknfbkkfidbaaGreatDoor
open Go.RowKit Go.Joins Go.Deep Go.ChangeShapes Go.WideShapes Go.ChangeAt
set_option linter.unusedVariables false

instance : Inhabited Trm := ⟨zt⟩
theorem cellsFT : Tryz.prog.cellsOf 74 = 5 := by kernel_rfl
theorem cellsFC : Tryz.prog.cellsOf 180 = 1 := by kernel_rfl
theorem cellsFF : Tryz.prog.cellsOf 80 = 1 := by kernel_rfl
theorem cellsFS : Tryz.prog.cellsOf 178 = 1 := by kernel_rfl
theorem cellsFQ : Tryz.prog.cellsOf 78 = 1 := by kernel_rfl
theorem addF (b off i : Nat) : (⟨b, off, none⟩ : Addr).add i = ⟨b, off + i, none⟩ := by unfold Addr.add; split <;> simp_all
set_option maxRecDepth 100000 in
theorem open_terms {H : Type} {enc : TypeId × Value → H} {w : World} {base : Nat} {spare : Nat → Bool} {held : Bool} {fuel : Nat} {cs : List Value} {x : DataW H × List MemPlace}
    (h : DataW.trod enc Tryz.prog w base spare held fuel 178 cs = some x) :
    ∃ (a : Option Addr) (len cap : Nat) (l : List Trm), cs = [.slice a len cap] ∧ l.length = len ∧ maxC l ∧ InT w a l := by
  rcases open_slice Tryz.underlying178 h with ⟨rfl, _⟩ | ⟨a, len, cap, m, n, D, Pl, rfl, hb, hl, hm, hmm, _, hx⟩
  · exact ⟨none, 0, 0, [], rfl, rfl, ⟨Nat.zero_le _, (fun v hv => by simp at hv)⟩, .inl rfl⟩
  · have hlm : len ≤ m := by rw [hmm]; split <;> omega
    rw [cellsFT] at hx
    obtain ⟨f, hf⟩ := choose_lt (α := Trm) (n := len) (p := fun i t => w.cell? (a.add (i * 5)) = some (.int .i64 t.op) ∧ w.cell? ((a.add (i * 5)).add 1) = some (.string t.p) ∧ w.cell? ((a.add (i * 5)).add 2) = some (.int .i64 t.c.k) ∧ w.cell? ((a.add (i * 5)).add 3) = some (.int .i64 t.c.n) ∧ w.cell? ((a.add (i * 5)).add 4) = some (.string t.c.t) ∧ maxT t) (fun i hi => by
      obtain ⟨cs', h1, h2⟩ := hx i (by omega)
      obtain ⟨_, hlen, hc⟩ := World.cells?_some h1
      match cs', hlen with
      | [c0, c1, c2, c3, c4], _ =>
        obtain ⟨op, p, k, n, t, rfl, rfl, rfl, rfl, rfl, hp, ht⟩ := open_term_cells h2
        refine ⟨⟨op, p, ⟨k, n, t⟩⟩, ?_, ?_, ?_, ?_, ?_, hp, ht⟩
        · have := hc 0 (by omega); simpa [Addr.add] using this
        · exact hc 1 (by omega)
        · exact hc 2 (by omega)
        · exact hc 3 (by omega)
        · exact hc 4 (by omega))
    refine ⟨some a, len, cap, (List.range len).map f, rfl, by simp, ⟨by simp; omega, ?_⟩, ?_⟩
    · intro v hv
      obtain ⟨i, hi, rfl⟩ := List.mem_map.mp hv
      exact (hf i (by simpa using hi)).2.2.2.2.2
    · by_cases h0 : len = 0
      · exact .inl (by simp [h0])
      · obtain ⟨b, off, spot⟩ := a
        have hc0 := (hf 0 (by omega)).1
        have hspot : spot = none := by simpa [Addr.add] using World.cell?_spot hc0
        subst hspot
        have hlt : b < w.heap.size := by
          rcases Nat.lt_or_ge b w.heap.size with h | h
          · exact h
          · simp [World.cell?, Addr.add, Array.getElem?_eq_none h] at hc0
        refine .inr ⟨b, off, rfl, hlt, fun i hi => ?_⟩
        have hi2 : i < len := by simpa using hi
        have := hf i hi2
        simp only [addF] at this
        simp only [List.getElem_map, List.getElem_range]
        exact ⟨this.1, this.2.1, this.2.2.1, this.2.2.2.1, this.2.2.2.2.1⟩
set_option maxRecDepth 100000 in
theorem open_clauses {H : Type} {enc : TypeId × Value → H} {w : World} {base : Nat} {spare : Nat → Bool} {held : Bool} {fuel : Nat} {cs : List Value} {x : DataW H × List MemPlace}
    (h : DataW.trod enc Tryz.prog w base spare held fuel 78 cs = some x) :
    ∃ (a : Option Addr) (len cap : Nat) (f : List (List Trm)), cs = [.slice a len cap] ∧ f.length = len ∧ f.length ≤ maxLen ∧ (∀ l ∈ f, maxC l) ∧ InCl w a f := by
  rcases open_slice Tryz.underlying78 h with ⟨rfl, _⟩ | ⟨a, len, cap, m, n, D, Pl, rfl, hb, hl, hm, hmm, _, hx⟩
  · exact ⟨none, 0, 0, [], rfl, rfl, Nat.zero_le _, (fun v hv => by simp at hv), .inl rfl⟩
  · have hlm : len ≤ m := by rw [hmm]; split <;> omega
    rw [cellsFC] at hx
    obtain ⟨f, hf⟩ := choose_lt (α := List Trm) (n := len) (p := fun i l => ∃ p c, w.cell? (a.add (i * 1)) = some (.slice p l.length c) ∧ maxC l ∧ InT w p l) (fun i hi => by
      obtain ⟨cs', h1, h2⟩ := hx i (by omega)
      obtain ⟨_, hlen, hc⟩ := World.cells?_some h1
      match cs', hlen with
      | [c0], _ =>
        obtain ⟨y0, n', _, _, t0⟩ := trod_struct1 Tryz.underlying180 h2
        obtain ⟨p, ln, c, l, e, hln, hmx, hT⟩ := open_terms t0
        simp [cellsFS] at e
        subst e hln
        refine ⟨l, p, c, ?_, hmx, hT⟩
        have := hc 0 (by omega); simpa [Addr.add] using this)
    refine ⟨some a, len, cap, (List.range len).map f, rfl, by simp, by simp; omega, ?_, ?_⟩
    · intro v hv
      obtain ⟨i, hi, rfl⟩ := List.mem_map.mp hv
      obtain ⟨p, c, _, h2, _⟩ := hf i (by simpa using hi)
      exact h2
    · by_cases h0 : len = 0
      · exact .inl (by simp [h0])
      · obtain ⟨b, off, spot⟩ := a
        obtain ⟨p0, c0, hc0, _, _⟩ := hf 0 (by omega)
        have hspot : spot = none := by simpa [Addr.add] using World.cell?_spot hc0
        subst hspot
        have hlt : b < w.heap.size := by
          rcases Nat.lt_or_ge b w.heap.size with h | h
          · exact h
          · simp [World.cell?, Addr.add, Array.getElem?_eq_none h] at hc0
        refine .inr ⟨b, off, rfl, hlt, fun i hi => ?_⟩
        have hi2 : i < len := by simpa using hi
        obtain ⟨p, c, h1, h2, h3⟩ := hf i hi2
        simp only [addF, Nat.mul_one] at h1
        simp only [List.getElem_map, List.getElem_range]
        exact ⟨p, c, h1, h3⟩
set_option maxRecDepth 100000 in
theorem open_filter {H : Type} {enc : TypeId × Value → H} {w : World} {base b0 : Nat} {spare : Nat → Bool} {held : Bool} {r : Reach} {v : Value} {d : DataW H} {ps : List MemPlace}
    (hv : Value.okWide Tryz.prog w r b0 80 v) (h : DataW.Trod enc Tryz.prog w base spare held 80 v d ps) :
    ∃ (a : Option Addr) (cap : Nat) (f : List (List Trm)), v = .agg #[.slice a f.length cap] ∧ f.length ≤ maxLen ∧ (∀ l ∈ f, maxC l) ∧ InCl w a f := by
  obtain ⟨cs, rfl, hsz⟩ := okWide_struct Tryz.underlying80 hv
  obtain ⟨fuel, hf⟩ := h
  rw [cellsFF] at hsz
  obtain ⟨l⟩ := cs
  match l, hsz with
  | [c0], _ =>
    obtain ⟨y0, n', _, _, t0⟩ := trod_struct1 Tryz.underlying80 (show DataW.trod enc Tryz.prog w base spare held fuel 80 [c0] = some _ by simpa [Value.cells] using hf)
    obtain ⟨p, ln, c, f, e, hln, h1, h2, h3⟩ := open_clauses t0
    simp [cellsFQ] at e
    subst e hln
    exact ⟨p, c, f, rfl, h1, h2, h3⟩

end Go.Proofs.YtgjknfbkkfidbaaGreatDoor

/- All that the law on holding a document to a filter reaches. -/
namespace Go.Proofs.YtgjknfbkkfidbaaGreatDoor
open Go.RowKit
set_option linter.unusedVariables false

theorem keepM {w W U : World} {a x y z : Value} (X : B13 w W a x y z) (hb : Below W.heap.size W U) :
    U.cell? ⟨w.heap.size, 0, none⟩ = some a ∧ U.cell? ⟨w.heap.size + 1, 0, none⟩ = some x ∧ U.cell? ⟨w.heap.size + 1, 1, none⟩ = some y ∧ U.cell? ⟨w.heap.size + 1, 2, none⟩ = some z :=
  have Y := X.step hb
  ⟨Y.c0, Y.d0, Y.d1, Y.d2⟩
theorem keepN {w W U : World} {a x y z s : Value} {b : Nat} (X : B13 w W a x y z) (hl : b < W.heap.size) (h0 : W.cell? ⟨b, 0, none⟩ = some s) (hb : Below W.heap.size W U) :
    U.cell? ⟨w.heap.size, 0, none⟩ = some a ∧ U.cell? ⟨w.heap.size + 1, 0, none⟩ = some x ∧ U.cell? ⟨w.heap.size + 1, 1, none⟩ = some y ∧ U.cell? ⟨w.heap.size + 1, 2, none⟩ = some z ∧ U.cell? ⟨b, 0, none⟩ = some s :=
  have Y := X.step hb
  ⟨Y.c0, Y.d0, Y.d1, Y.d2, (hb.cell hl).trans h0⟩

end Go.Proofs.YtgjknfbkkfidbaaGreatDoor
