/- Whether a query is right: what the program answers. -/
import Derived.Test.YtbplmgmajmomcaaGreatDoorRowTQ
import Derived.Test.YtbplmgmajmomcaaGreatDoorDefEQ
import Derived.Test.YtbplmgmajmomcaaGreatDoorRowS
namespace Go.Proofs.YtbplmgmajmomcaaGreatDoor.Qr
open Go.RowKit
open Tr
set_option linter.unusedVariables false

/-- A query, its texts as bytes. -/
structure Qry where
  f : List (List Trm)
  so : List Prt
  skip : Int
  lim : Int
  keep : List ByteArray
  hint : ByteArray
def sortB (l : List Prt) : Bool := decide (l.length ≤ 2) && l.all okPt
def cntB (n : Int) : Bool := decide (0 ≤ n ∧ n ≤ 100)
def keepB (l : List ByteArray) : Bool := decide (l.length ≤ 4) && l.all shortB
def hintB (t : ByteArray) : Bool := (t.toList == em.toList) || shortB t
def qryB (q : Qry) : Bool := filtB q.f && (sortB q.so && (cntB q.skip && (cntB q.lim && (keepB q.keep && hintB q.hint))))
structure SzQ (q : Qry) : Prop where
  f0 : q.f.length ≤ 1048576
  f1 : ∀ l ∈ q.f, szC l
  s0 : q.so.length ≤ 1048576
  s1 : ∀ v ∈ q.so, szPt v
  k0 : q.keep.length ≤ 1048576
  k1 : ∀ v ∈ q.keep, v.size ≤ 1048576
  h0 : q.hint.size ≤ 1048576
/-- Where a query's rows lie. -/
structure RdQ (W : World) (pf ps : Option Addr) (gk : Nat) (q : Qry) : Prop where
  f : RowC W pf q.f
  s : RowD W ps q.so
  k : ReadS W gk 0 q.keep
theorem RdQ.next {W W' : World} {pf ps : Option Addr} {gk : Nat} {q : Qry} (h : RdQ W pf ps gk q) (hb : Below W.heap.size W W') : RdQ W' pf ps gk q := ⟨h.f.next hb, h.s.next hb, h.k.next hb⟩
/-- Six cells in the first new block. -/
structure Bx6 (w W : World) (a0 a1 a2 a3 a4 a5 : Value) : Prop where
  bel : Below w.heap.size w W
  lt : w.heap.size < W.heap.size
  c0 : W.cell? ⟨w.heap.size, 0, none⟩ = some a0
  c1 : W.cell? ⟨w.heap.size, 1, none⟩ = some a1
  c2 : W.cell? ⟨w.heap.size, 2, none⟩ = some a2
  c3 : W.cell? ⟨w.heap.size, 3, none⟩ = some a3
  c4 : W.cell? ⟨w.heap.size, 4, none⟩ = some a4
  c5 : W.cell? ⟨w.heap.size, 5, none⟩ = some a5
theorem Bx6.start (w : World) (a0 a1 a2 a3 a4 a5 : Value) (T : TypeId) : Bx6 w (w.alloc (.cells #[a0, a1, a2, a3, a4, a5] T)) a0 a1 a2 a3 a4 a5 :=
  ⟨(Below.refl _ _).alloc (Nat.le_refl _) _, by simp, by simp [go_sem], by simp [go_sem], by simp [go_sem], by simp [go_sem], by simp [go_sem], by simp [go_sem]⟩
theorem Bx6.step {w W W' : World} {a0 a1 a2 a3 a4 a5 : Value} (h : Bx6 w W a0 a1 a2 a3 a4 a5) (hb : Below W.heap.size W W') : Bx6 w W' a0 a1 a2 a3 a4 a5 :=
  ⟨h.bel.trans (hb.mono h.bel.size), Nat.lt_of_lt_of_le h.lt hb.size, (hb.cell h.lt).trans h.c0, (hb.cell h.lt).trans h.c1, (hb.cell h.lt).trans h.c2, (hb.cell h.lt).trans h.c3, (hb.cell h.lt).trans h.c4, (hb.cell h.lt).trans h.c5⟩

set_option maxRecDepth 4000 in
set_option maxHeartbeats 1000000 in
theorem sortOK_any (p : Option Addr) (cap : Nat) (l : List Prt) (w : World) (hr : RowD w p l) (hl : l.length ≤ 1048576) (hs : ∀ v ∈ l, szPt v) :
    Calls Tryz.prog 169 #[.slice p l.length cap] w fun e w' => e = .returned (.bool (sortB l)) ∧ Below w.heap.size w w' := by
  have HC : Hid (Calls _ _ _ _ _) := anyWrongD_any p cap l w hr hl hs
  clear hr hs
  unfold sortB
  by_cases h2 : l.length ≤ 2
  · have a2 : (l.length : Int) ≤ 2 := by omega
    rw [decide_eq_true h2, Bool.true_and]
    obtain ⟨b, hb⟩ : ∃ b, b = l.all okPt := ⟨_, rfl⟩
    rw [← hb] at HC ⊢
    clear hb h2
    go_enter Tryz.func169, Tryz.ntmps169
    go_wp2_with fail
    refine HC.out.mono ?_
    rintro e w1 ⟨rfl, hb⟩
    go_wp2_with fail
    go_ret
    exact ⟨by simp, hb⟩
  · have a2 : ¬ (l.length : Int) ≤ 2 := by omega
    rw [decide_eq_false h2, Bool.false_and]
    clear h2
    go_enter Tryz.func169, Tryz.ntmps169
    go_wp2_with fail
    go_ret
    exact ⟨rfl, Below.refl _ _⟩
set_option maxRecDepth 4000 in
set_option maxHeartbeats 1000000 in
theorem keepOK_any (g cap : Nat) (l : List ByteArray) (w : World) (hr : ReadS w g 0 l) (hl : l.length ≤ 1048576) (hs : ∀ v ∈ l, v.size ≤ 1048576) :
    Calls Tryz.prog 171 #[.slice (some ⟨g, 0, none⟩) l.length cap] w fun e w' => e = .returned (.bool (keepB l)) ∧ Below w.heap.size w w' := by
  have HC : Hid (Calls _ _ _ _ _) := anyNoShort_any g cap l w hr hl hs
  clear hr hs
  unfold keepB
  by_cases h2 : l.length ≤ 4
  · have a2 : (l.length : Int) ≤ 4 := by omega
    rw [decide_eq_true h2, Bool.true_and]
    obtain ⟨b, hb⟩ : ∃ b, b = l.all shortB := ⟨_, rfl⟩
    rw [← hb] at HC ⊢
    clear hb h2
    go_enter Tryz.func171, Tryz.ntmps171
    go_wp2_with fail
    refine HC.out.mono ?_
    rintro e w1 ⟨rfl, hb⟩
    go_wp2_with fail
    go_ret
    exact ⟨by simp, hb⟩
  · have a2 : ¬ (l.length : Int) ≤ 4 := by omega
    rw [decide_eq_false h2, Bool.false_and]
    clear h2
    go_enter Tryz.func171, Tryz.ntmps171
    go_wp2_with fail
    go_ret
    exact ⟨rfl, Below.refl _ _⟩
theorem em_list : em.toList = [] := by first | (simp [em, ByteArray.toList_data]; done) | (simp [em]; done) | kernel_rfl | decide +kernel
set_option maxRecDepth 4000 in
set_option maxHeartbeats 1000000 in
theorem hintOK_any (t : ByteArray) (w : World) (hs : t.size ≤ 1048576) :
    Calls Tryz.prog 172 #[.string t] w fun e w' => e = .returned (.bool (hintB t)) ∧ Below w.heap.size w w' := by
  have HC : Hid (Calls _ _ _ _ _) := shortNameOK_any t w (by unfold maxLen; omega)
  unfold hintB
  cases he : (t.toList == em.toList)
  · obtain ⟨b, hb⟩ : ∃ b, b = shortB t := ⟨_, rfl⟩
    rw [← hb] at HC
    rw [Bool.false_or, ← hb]
    clear hb
    have he2 : (t.toList == []) = false := by rw [← em_list]; exact he
    have he3 : ¬ t.toList = [] := by simpa using he2
    go_enter Tryz.func172, Tryz.ntmps172
    go_wp2_with fail
    refine HC.out.mono ?_
    rintro e w1 ⟨rfl, rfl⟩
    go_wp2_with fail
    go_ret
    exact ⟨rfl, Below.refl _ _⟩
  · have he2 : (t.toList == []) = true := by rw [← em_list]; exact he
    have he3 : t.toList = [] := by simpa using he2
    rw [Bool.true_or]
    go_enter Tryz.func172, Tryz.ntmps172
    go_wp2_with fail
    go_ret
    exact ⟨rfl, Below.refl _ _⟩
set_option maxRecDepth 4000 in
set_option maxHeartbeats 1000000 in
theorem rowCountOK_any (n : Int) (w : World) :
    Calls Tryz.prog 170 #[.int .i64 n] w fun e w' => e = .returned (.bool (cntB n)) ∧ Below w.heap.size w w' := by
  unfold cntB
  by_cases h0 : 0 ≤ n
  · by_cases h1 : n ≤ 100
    · rw [decide_eq_true ⟨h0, h1⟩]
      go_enter Tryz.func170, Tryz.ntmps170
      go_wp2_with fail
      go_ret
      exact ⟨by simp [*], Below.refl _ _⟩
    · rw [decide_eq_false (fun h => h1 h.2)]
      go_enter Tryz.func170, Tryz.ntmps170
      go_wp2_with fail
      go_ret
      exact ⟨by simp [*], Below.refl _ _⟩
  · rw [decide_eq_false (fun h => h0 h.1)]
    go_enter Tryz.func170, Tryz.ntmps170
    go_wp2_with fail
    go_ret
    exact ⟨by simp [*], Below.refl _ _⟩

set_option maxRecDepth 4000 in
set_option maxHeartbeats 2000000 in
theorem queryOK_any (pf ps : Option Addr) (gk cf cs ck : Nat) (q : Qry) (w : World) (hr : RdQ w pf ps gk q) (hz : SzQ q) :
    Calls Tryz.prog 115 #[.agg #[.slice pf q.f.length cf, .slice ps q.so.length cs, .int .i64 q.skip, .int .i64 q.lim, .slice (some ⟨gk, 0, none⟩) q.keep.length ck, .string q.hint]] w fun e w' => e = .returned (.bool (qryB q)) ∧ Below w.heap.size w w' := by
  have X0 := Bx6.start w (.slice pf q.f.length cf) (.slice ps q.so.length cs) (.int .i64 q.skip) (.int .i64 q.lim) (.slice (some ⟨gk, 0, none⟩) q.keep.length ck) (.string q.hint) 59
  have H1 : Hid (∀ W : World, Below w.heap.size w W → Calls _ _ _ W _) := fun W hW => filterOK_any pf cf q.f W (hr.next hW).f hz.f0 hz.f1
  have H2 : Hid (∀ W : World, Below w.heap.size w W → Calls _ _ _ W _) := fun W hW => sortOK_any ps cs q.so W (hr.next hW).s hz.s0 hz.s1
  have H3 : Hid (∀ W : World, Calls _ _ _ W _) := fun W => rowCountOK_any q.skip W
  have H4 : Hid (∀ W : World, Calls _ _ _ W _) := fun W => rowCountOK_any q.lim W
  have H5 : Hid (∀ W : World, Below w.heap.size w W → Calls _ _ _ W _) := fun W hW => keepOK_any gk ck q.keep W (hr.next hW).k hz.k0 hz.k1
  have H6 : Hid (∀ W : World, Calls _ _ _ W _) := fun W => hintOK_any q.hint W hz.h0
  unfold qryB
  obtain ⟨b1, h1⟩ : ∃ b, b = filtB q.f := ⟨_, rfl⟩
  obtain ⟨b2, h2⟩ : ∃ b, b = sortB q.so := ⟨_, rfl⟩
  obtain ⟨b3, h3⟩ : ∃ b, b = cntB q.skip := ⟨_, rfl⟩
  obtain ⟨b4, h4⟩ : ∃ b, b = cntB q.lim := ⟨_, rfl⟩
  obtain ⟨b5, h5⟩ : ∃ b, b = keepB q.keep := ⟨_, rfl⟩
  obtain ⟨b6, h6⟩ : ∃ b, b = hintB q.hint := ⟨_, rfl⟩
  rw [← h1] at H1
  rw [← h2] at H2
  rw [← h3] at H3
  rw [← h4] at H4
  rw [← h5] at H5
  rw [← h6] at H6
  rw [← h1, ← h2, ← h3, ← h4, ← h5, ← h6]
  clear hr hz h1 h2 h3 h4 h5 h6
  go_enter Tryz.func115, Tryz.ntmps115
  go_wp2_with fail
  refine (H1.out _ X0.bel).mono ?_
  rintro e w1 ⟨rfl, hb⟩
  have X1 := X0.step hb
  have c1 := X1.c1
  have B1 := X1.bel
  clear hb X0 H1
  cases b1
  · go_wp2_with fail
    go_ret
    exact ⟨rfl, B1⟩
  go_wp2_with fail
  refine (H2.out _ X1.bel).mono ?_
  rintro e w2 ⟨rfl, hb⟩
  have X2 := X1.step hb
  have c2 := X2.c2
  have B2 := X2.bel
  clear hb X1 H2 c1 B1
  cases b2
  · go_wp2_with fail
    go_ret
    exact ⟨rfl, B2⟩
  go_wp2_with fail
  refine (H3.out _).mono ?_
  rintro e w3 ⟨rfl, hb⟩
  have X3 := X2.step hb
  have c3 := X3.c3
  have B3 := X3.bel
  clear hb X2 H3 c2 B2
  cases b3
  · go_wp2_with fail
    go_ret
    exact ⟨rfl, B3⟩
  go_wp2_with fail
  refine (H4.out _).mono ?_
  rintro e w4 ⟨rfl, hb⟩
  have X4 := X3.step hb
  have c4 := X4.c4
  have B4 := X4.bel
  clear hb X3 H4 c3 B3
  cases b4
  · go_wp2_with fail
    go_ret
    exact ⟨rfl, B4⟩
  go_wp2_with fail
  refine (H5.out _ X4.bel).mono ?_
  rintro e w5 ⟨rfl, hb⟩
  have X5 := X4.step hb
  have c5 := X5.c5
  have B5 := X5.bel
  clear hb X4 H5 c4 B4
  cases b5
  · go_wp2_with fail
    go_ret
    exact ⟨rfl, B5⟩
  go_wp2_with fail
  refine (H6.out _).mono ?_
  rintro e w6 ⟨rfl, hb⟩
  have B6 := (X5.step hb).bel
  clear hb X5 H6 c5 B5
  go_wp2_with fail
  go_ret
  exact ⟨by simp, B6⟩
end Go.Proofs.YtbplmgmajmomcaaGreatDoor.Qr

/- Whether a query is right: what the specification answers. -/
namespace Go.Proofs.YtbplmgmajmomcaaGreatDoor.Qr
open Go.RowKit
open Tr
set_option linter.unusedVariables false

set_option maxRecDepth 8000 in
set_option maxHeartbeats 4000000 in
theorem specQuery_any (pf ps : Option Addr) (gk cf cs ck : Nat) (q : Qry) (w : World) (hr : RdQ w pf ps gk q) (hz : SzQ q) :
    Calls Tryz.prog 55 #[.agg #[.slice pf q.f.length cf, .slice ps q.so.length cs, .int .i64 q.skip, .int .i64 q.lim, .slice (some ⟨gk, 0, none⟩) q.keep.length ck, .string q.hint]] w fun e w' => e = .returned (.bool (qryB q)) ∧ Below w.heap.size w w' := by
  have X0 := Bx6.start w (.slice pf q.f.length cf) (.slice ps q.so.length cs) (.int .i64 q.skip) (.int .i64 q.lim) (.slice (some ⟨gk, 0, none⟩) q.keep.length ck) (.string q.hint) 59
  have H1 : Hid (∀ W : World, Below w.heap.size w W → Calls _ _ _ W _) := fun W hW => specFilt_any pf cf q.f W (hr.next hW).f hz.f0 hz.f1
  have H3 : Hid (∀ W : World, Calls _ _ _ W _) := fun W => l01In_any q.skip 0 100 W
  have H4 : Hid (∀ W : World, Calls _ _ _ W _) := fun W => l01In_any q.lim 0 100 W
  have H6 : Hid (∀ W : World, Calls _ _ _ W _) := fun W => l01Name_any q.hint W (by have := hz.h0; unfold maxLen; omega)
  have HR : Hid (RdQ w pf ps gk q) := hr
  have HZ : Hid (SzQ q) := hz
  obtain ⟨Q, hQ⟩ : ∃ b, b = qryB q := ⟨_, rfl⟩
  rw [← hQ]
  unfold qryB sortB keepB hintB at hQ
  have e3 : cntB q.skip = decide (0 ≤ q.skip ∧ q.skip ≤ 100) := rfl
  have e4 : cntB q.lim = decide (0 ≤ q.lim ∧ q.lim ≤ 100) := rfl
  obtain ⟨b1, h1⟩ : ∃ b, b = filtB q.f := ⟨_, rfl⟩
  obtain ⟨b2, h2⟩ : ∃ b, b = q.so.all okPt := ⟨_, rfl⟩
  obtain ⟨b3, h3⟩ : ∃ b, b = cntB q.skip := ⟨_, rfl⟩
  obtain ⟨b4, h4⟩ : ∃ b, b = cntB q.lim := ⟨_, rfl⟩
  obtain ⟨b5, h5⟩ : ∃ b, b = q.keep.all shortB := ⟨_, rfl⟩
  obtain ⟨b6, h6⟩ : ∃ b, b = shortB q.hint := ⟨_, rfl⟩
  rw [← h1] at H1
  rw [← e3, ← h3] at H3
  rw [← e4, ← h4] at H4
  rw [← h6] at H6
  rw [← h1, ← h2, ← h3, ← h4, ← h5, ← h6] at hQ
  have HQ : Hid (Q = _) := hQ
  have HB2 : Hid (b2 = _) := h2
  have HB5 : Hid (b5 = _) := h5
  clear hr hz h1 h2 h3 h4 h5 h6 e3 e4 hQ
  go_enter Tryz.func55, Tryz.ntmps55
  go_wp2_with fail
  refine (H1.out _ X0.bel).mono ?_
  rintro e w1 ⟨rfl, hb⟩
  have X1 := X0.step hb
  have c1 := X1.c1
  have c2 := X1.c2
  have c3 := X1.c3
  have c4 := X1.c4
  have c5 := X1.c5
  have B1 := X1.bel
  clear hb X0 H1
  cases b1
  · go_wp2_with fail
    go_ret
    exact ⟨by rw [HQ.out]; rfl, B1⟩
  by_cases hs2 : q.so.length ≤ 2
  case neg =>
    have a2 : (2 : Int) < (q.so.length : Int) := by omega
    have HF : Hid (Q = false) := by
      show Q = false
      rw [HQ.out, decide_eq_false hs2]; simp
    clear hs2
    go_wp2_with fail
    go_ret
    exact ⟨by rw [HF.out] <;> rfl, B1⟩
  case pos =>
  have a2 : ¬ (2 : Int) < (q.so.length : Int) := by omega
  rw [decide_eq_true hs2] at HQ
  go_wp2_with fail
  refine (H3.out _).mono ?_
  rintro e w3 ⟨rfl, rfl⟩
  clear H3
  cases b3
  · go_wp2_with fail
    go_ret
    exact ⟨by rw [HQ.out]; simp, B1⟩
  go_wp2_with fail
  refine (H4.out _).mono ?_
  rintro e w4 ⟨rfl, rfl⟩
  clear H4
  cases b4
  · go_wp2_with fail
    go_ret
    exact ⟨by rw [HQ.out]; simp, B1⟩
  by_cases hk4 : q.keep.length ≤ 4
  case neg =>
    have a4 : (4 : Int) < (q.keep.length : Int) := by omega
    have HF : Hid (Q = false) := by
      show Q = false
      rw [HQ.out, decide_eq_false hk4]; simp
    clear hk4
    go_wp2_with fail
    go_ret
    exact ⟨by rw [HF.out] <;> rfl, B1⟩
  case pos =>
  have a4 : ¬ (4 : Int) < (q.keep.length : Int) := by omega
  rw [decide_eq_true hk4] at HQ
  have HREST : Hid (Q = (b2 && (b5 && ((q.hint.toList == em.toList) || b6)))) := by
    show Q = _
    rw [HQ.out]; simp
  clear HQ
  have HLOOP : True := trivial
  cases he : (q.hint.toList == em.toList)
  · have he2 : (q.hint.toList == []) = false := by rw [← em_list]; exact he
    have he3 : ¬ q.hint.toList = [] := by simpa using he2
    rw [he, Bool.false_or] at HREST
    go_wp2_with fail
    refine (H6.out _).mono ?_
    rintro e w6 ⟨rfl, rfl⟩
    clear H6 he he2 he3
    cases b6
    · go_wp2_with fail
      go_ret
      exact ⟨by rw [HREST.out]; simp, B1⟩
    have HRES : Hid (Q = (b2 && b5)) := by
      show Q = _
      rw [HREST.out]; simp
    clear HREST
    go_wp2_with fail
    go_loopw [3] (fun i wr => ∃ k : Nat, k ≤ q.so.length ∧ i = .int .i64 k ∧ (∀ u ∈ q.so.take k, okPt u = true) ∧ Bx6 w wr (.slice pf q.f.length cf) (.slice ps q.so.length cs) (.int .i64 q.skip) (.int .i64 q.lim) (.slice (some ⟨gk, 0, none⟩) q.keep.length ck) (.string q.hint)) (fun i _ => q.so.length - (intOf i).toNat)
    case atStart => exact ⟨0, Nat.zero_le _, rfl, fun u hu => by simp at hu, X1⟩
    case round =>
      obtain ⟨k, hk, rfl, hall, X⟩ := hrel
      have HA : Hid _ := hall
      have c1 := X.c1
      have c4 := X.c4
      have B := X.bel
      clear hall
      by_cases hlt : k < q.so.length
      · rcases (HR.out.next X.bel).s with h0 | ⟨g, rfl, RR⟩
        · rw [h0] at hlt; simp at hlt
        obtain ⟨x0, x1⟩ := RR.cells k hlt
        have hlt2 : (k : Int) < (q.so.length : Int) := by omega
        have HK0 : ∀ W : World, Calls Tryz.prog 106 #[.string q.so[k].path] W fun e w' => e = .returned (.bool (okPt q.so[k])) ∧ Below W.heap.size W w' := fun W => specPath_any q.so[k].path W (HZ.out.s1 q.so[k] (List.getElem_mem _))
        obtain ⟨bk, hbk⟩ : ∃ b, b = okPt q.so[k] := ⟨_, rfl⟩
        rw [← hbk] at HK0
        have HK : Hid _ := HK0
        have HBK : Hid (bk = _) := hbk
        clear RR HK0 hbk
        go_wp2_with fail
        refine (HK.out _).mono ?_
        rintro e w2 ⟨rfl, hb⟩
        have X2 := X.step hb
        have B2 := X2.bel
        clear hb HK
        cases bk
        · have HF : Hid (Q = false) := by
            have h : b2 = false := by
              rw [HB2.out, Bool.eq_false_iff]; intro hh
              have := List.all_eq_true.mp hh q.so[k] (List.getElem_mem _)
              rw [← HBK.out] at this; cases this
            show Q = false
            rw [HRES.out, h]; rfl
          go_wp2_with fail
          go_ret
          exact ⟨by rw [HF.out] <;> rfl, B2⟩
        · go_wp2_with fail
          go_roundw
          case rel =>
            refine ⟨k + 1, by omega, by go_num, ?_, X2⟩
            intro u hu
            rw [List.take_succ_eq_append_getElem hlt] at hu
            rcases List.mem_append.mp hu with h | h
            · exact HA.out u h
            · simp at h; subst h; exact HBK.out.symm
          case measure => simp [intOf]; omega
      · have hlt2 : ¬ (k : Int) < (q.so.length : Int) := by omega
        have h2 : b2 = true := by rw [HB2.out]; exact List.all_eq_true.mpr fun u hu => HA.out u (by rw [List.take_of_length_le (by omega)]; exact hu)
        have HR5 : Hid (Q = b5) := by show Q = _; rw [HRES.out, h2]; rfl
        clear h2
        go_wp2_with fail
        obtain ⟨wo, hwo⟩ : ∃ W, W = wr := ⟨_, rfl⟩
        rw [← hwo] at X ⊢
        clear hwo
        go_loopw [4] (fun i wr => ∃ k : Nat, k ≤ q.keep.length ∧ i = .int .i64 k ∧ (∀ u ∈ q.keep.take k, shortB u = true) ∧ wr = wo) (fun i _ => q.keep.length - (intOf i).toNat)
        case atStart => exact ⟨0, Nat.zero_le _, rfl, fun u hu => by simp at hu, rfl⟩
        case round =>
          obtain ⟨k, hk, rfl, hall, rfl⟩ := hrel
          have HA : Hid _ := hall
          have d4 := X.c4
          have D := X.bel
          clear hall
          by_cases hlt : k < q.keep.length
          · have RR := (HR.out.next X.bel).k
            have x0 := RR.cells k hlt
            rw [Nat.zero_add] at x0
            have hlt2 : (k : Int) < (q.keep.length : Int) := by omega
            have HK0 := fun W : World => l01Name_any q.keep[k] W (by have := HZ.out.k1 q.keep[k] (List.getElem_mem _); unfold maxLen; omega)
            obtain ⟨bk, hbk⟩ : ∃ b, b = shortB q.keep[k] := ⟨_, rfl⟩
            rw [← hbk] at HK0
            have HK : Hid (∀ W : World, Calls _ _ _ W _) := HK0
            have HBK : Hid (bk = _) := hbk
            clear RR HK0 hbk
            go_wp2_with fail
            refine (HK.out _).mono ?_
            rintro e w2 ⟨rfl, rfl⟩
            clear HK
            cases bk
            · have HF : Hid (Q = false) := by
                have h : b5 = false := by
                  rw [HB5.out, Bool.eq_false_iff]; intro hh
                  have := List.all_eq_true.mp hh q.keep[k] (List.getElem_mem _)
                  rw [← HBK.out] at this; cases this
                show Q = false
                rw [HR5.out, h]
              go_wp2_with fail
              go_ret
              exact ⟨by rw [HF.out] <;> rfl, D⟩
            · go_wp2_with fail
              go_roundw
              case rel =>
                refine ⟨k + 1, by omega, by go_num, ?_, trivial⟩
                intro u hu
                rw [List.take_succ_eq_append_getElem hlt] at hu
                rcases List.mem_append.mp hu with h | h
                · exact HA.out u h
                · simp at h; subst h; exact HBK.out.symm
              case measure => simp [intOf]; omega
          · have hlt2 : ¬ (k : Int) < (q.keep.length : Int) := by omega
            have h5 : b5 = true := by rw [HB5.out]; exact List.all_eq_true.mpr fun u hu => HA.out u (by rw [List.take_of_length_le (by omega)]; exact hu)
            have HF : Hid (Q = true) := by show Q = _; rw [HR5.out, h5]
            clear h5
            go_wp2_with fail
            go_ret
            exact ⟨by rw [HF.out] <;> rfl, D⟩
  · have he2 : (q.hint.toList == []) = true := by rw [← em_list]; exact he
    have he3 : q.hint.toList = [] := by simpa using he2
    rw [he, Bool.true_or] at HREST
    have HRES : Hid (Q = (b2 && b5)) := by
      show Q = _
      rw [HREST.out]; simp
    clear HREST H6
    go_wp2_with fail
    clear he he2 he3
    go_loopw [3] (fun i wr => ∃ k : Nat, k ≤ q.so.length ∧ i = .int .i64 k ∧ (∀ u ∈ q.so.take k, okPt u = true) ∧ Bx6 w wr (.slice pf q.f.length cf) (.slice ps q.so.length cs) (.int .i64 q.skip) (.int .i64 q.lim) (.slice (some ⟨gk, 0, none⟩) q.keep.length ck) (.string q.hint)) (fun i _ => q.so.length - (intOf i).toNat)
    case atStart => exact ⟨0, Nat.zero_le _, rfl, fun u hu => by simp at hu, X1⟩
    case round =>
      obtain ⟨k, hk, rfl, hall, X⟩ := hrel
      have HA : Hid _ := hall
      have c1 := X.c1
      have c4 := X.c4
      have B := X.bel
      clear hall
      by_cases hlt : k < q.so.length
      · rcases (HR.out.next X.bel).s with h0 | ⟨g, rfl, RR⟩
        · rw [h0] at hlt; simp at hlt
        obtain ⟨x0, x1⟩ := RR.cells k hlt
        have hlt2 : (k : Int) < (q.so.length : Int) := by omega
        have HK0 : ∀ W : World, Calls Tryz.prog 106 #[.string q.so[k].path] W fun e w' => e = .returned (.bool (okPt q.so[k])) ∧ Below W.heap.size W w' := fun W => specPath_any q.so[k].path W (HZ.out.s1 q.so[k] (List.getElem_mem _))
        obtain ⟨bk, hbk⟩ : ∃ b, b = okPt q.so[k] := ⟨_, rfl⟩
        rw [← hbk] at HK0
        have HK : Hid _ := HK0
        have HBK : Hid (bk = _) := hbk
        clear RR HK0 hbk
        go_wp2_with fail
        refine (HK.out _).mono ?_
        rintro e w2 ⟨rfl, hb⟩
        have X2 := X.step hb
        have B2 := X2.bel
        clear hb HK
        cases bk
        · have HF : Hid (Q = false) := by
            have h : b2 = false := by
              rw [HB2.out, Bool.eq_false_iff]; intro hh
              have := List.all_eq_true.mp hh q.so[k] (List.getElem_mem _)
              rw [← HBK.out] at this; cases this
            show Q = false
            rw [HRES.out, h]; rfl
          go_wp2_with fail
          go_ret
          exact ⟨by rw [HF.out] <;> rfl, B2⟩
        · go_wp2_with fail
          go_roundw
          case rel =>
            refine ⟨k + 1, by omega, by go_num, ?_, X2⟩
            intro u hu
            rw [List.take_succ_eq_append_getElem hlt] at hu
            rcases List.mem_append.mp hu with h | h
            · exact HA.out u h
            · simp at h; subst h; exact HBK.out.symm
          case measure => simp [intOf]; omega
      · have hlt2 : ¬ (k : Int) < (q.so.length : Int) := by omega
        have h2 : b2 = true := by rw [HB2.out]; exact List.all_eq_true.mpr fun u hu => HA.out u (by rw [List.take_of_length_le (by omega)]; exact hu)
        have HR5 : Hid (Q = b5) := by show Q = _; rw [HRES.out, h2]; rfl
        clear h2
        go_wp2_with fail
        obtain ⟨wo, hwo⟩ : ∃ W, W = wr := ⟨_, rfl⟩
        rw [← hwo] at X ⊢
        clear hwo
        go_loopw [4] (fun i wr => ∃ k : Nat, k ≤ q.keep.length ∧ i = .int .i64 k ∧ (∀ u ∈ q.keep.take k, shortB u = true) ∧ wr = wo) (fun i _ => q.keep.length - (intOf i).toNat)
        case atStart => exact ⟨0, Nat.zero_le _, rfl, fun u hu => by simp at hu, rfl⟩
        case round =>
          obtain ⟨k, hk, rfl, hall, rfl⟩ := hrel
          have HA : Hid _ := hall
          have d4 := X.c4
          have D := X.bel
          clear hall
          by_cases hlt : k < q.keep.length
          · have RR := (HR.out.next X.bel).k
            have x0 := RR.cells k hlt
            rw [Nat.zero_add] at x0
            have hlt2 : (k : Int) < (q.keep.length : Int) := by omega
            have HK0 := fun W : World => l01Name_any q.keep[k] W (by have := HZ.out.k1 q.keep[k] (List.getElem_mem _); unfold maxLen; omega)
            obtain ⟨bk, hbk⟩ : ∃ b, b = shortB q.keep[k] := ⟨_, rfl⟩
            rw [← hbk] at HK0
            have HK : Hid (∀ W : World, Calls _ _ _ W _) := HK0
            have HBK : Hid (bk = _) := hbk
            clear RR HK0 hbk
            go_wp2_with fail
            refine (HK.out _).mono ?_
            rintro e w2 ⟨rfl, rfl⟩
            clear HK
            cases bk
            · have HF : Hid (Q = false) := by
                have h : b5 = false := by
                  rw [HB5.out, Bool.eq_false_iff]; intro hh
                  have := List.all_eq_true.mp hh q.keep[k] (List.getElem_mem _)
                  rw [← HBK.out] at this; cases this
                show Q = false
                rw [HR5.out, h]
              go_wp2_with fail
              go_ret
              exact ⟨by rw [HF.out] <;> rfl, D⟩
            · go_wp2_with fail
              go_roundw
              case rel =>
                refine ⟨k + 1, by omega, by go_num, ?_, trivial⟩
                intro u hu
                rw [List.take_succ_eq_append_getElem hlt] at hu
                rcases List.mem_append.mp hu with h | h
                · exact HA.out u h
                · simp at h; subst h; exact HBK.out.symm
              case measure => simp [intOf]; omega
          · have hlt2 : ¬ (k : Int) < (q.keep.length : Int) := by omega
            have h5 : b5 = true := by rw [HB5.out]; exact List.all_eq_true.mpr fun u hu => HA.out u (by rw [List.take_of_length_le (by omega)]; exact hu)
            have HF : Hid (Q = true) := by show Q = _; rw [HR5.out, h5]
            clear h5
            go_wp2_with fail
            go_ret
            exact ⟨by rw [HF.out] <;> rfl, D⟩
end Go.Proofs.YtbplmgmajmomcaaGreatDoor.Qr
