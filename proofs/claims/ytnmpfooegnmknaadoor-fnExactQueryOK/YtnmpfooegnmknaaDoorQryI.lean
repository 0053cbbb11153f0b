/- Whether a query is right: what the program answers. -/
import Derived.Test.YtnmpfooegnmknaaDoorFiltS
import Derived.Test.YtnmpfooegnmknaaDoorDefI
import Derived.Test.YtnmpfooegnmknaaDoorRowS
namespace Go.Proofs.YtnmpfooegnmknaaDoor.Qr
open Go.RowKit
open Tr
set_option linter.unusedVariables false

/-- A query, its texts as bytes. -/
structure Qry where
  f : List (List Trm)
  so : List Prt
  skip : Int
  lim : Int
  keep : List ByteArray
  hint : ByteArray
def sortB (l : List Prt) : Bool := decide (l.length ≤ 2) && l.all okPt
def cntB (n : Int) : Bool := decide (0 ≤ n ∧ n ≤ 100)
def keepB (l : List ByteArray) : Bool := decide (l.length ≤ 4) && l.all shortB
def hintB (t : ByteArray) : Bool := (t.toList == em.toList) || shortB t
def qryB (q : Qry) : Bool := filtB q.f && (sortB q.so && (cntB q.skip && (cntB q.lim && (keepB q.keep && hintB q.hint))))
structure SzQ (q : Qry) : Prop where
  f0 : q.f.length ≤ 1048576
  f1 : ∀ l ∈ q.f, szC l
  s0 : q.so.length ≤ 1048576
  s1 : ∀ v ∈ q.so, szPt v
  k0 : q.keep.length ≤ 1048576
  k1 : ∀ v ∈ q.keep, v.size ≤ 1048576
  h0 : q.hint.size ≤ 1048576
/-- Where a query's rows lie. -/
structure RdQ (W : World) (pf ps : Option Addr) (gk : Nat) (q : Qry) : Prop where
  f : RowC W pf q.f
  s : RowD W ps q.so
  k : ReadS W gk 0 q.keep
theorem RdQ.next {W W' : World} {pf ps : Option Addr} {gk : Nat} {q : Qry} (h : RdQ W pf ps gk q) (hb : Below W.heap.size W W') : RdQ W' pf ps gk q := ⟨h.f.next hb, h.s.next hb, h.k.next hb⟩
/-- Six cells in the first new block. -/
structure Bx6 (w W : World) (a0 a1 a2 a3 a4 a5 : Value) : Prop where
  bel : Below w.heap.size w W
  lt : w.heap.size < W.heap.size
  c0 : W.cell? ⟨w.heap.size, 0, none⟩ = some a0
  c1 : W.cell? ⟨w.heap.size, 1, none⟩ = some a1
  c2 : W.cell? ⟨w.heap.size, 2, none⟩ = some a2
  c3 : W.cell? ⟨w.heap.size, 3, none⟩ = some a3
  c4 : W.cell? ⟨w.heap.size, 4, none⟩ = some a4
  c5 : W.cell? ⟨w.heap.size, 5, none⟩ = some a5
theorem Bx6.start (w : World) (a0 a1 a2 a3 a4 a5 : Value) (T : TypeId) : Bx6 w (w.alloc (.cells #[a0, a1, a2, a3, a4, a5] T)) a0 a1 a2 a3 a4 a5 :=
  ⟨(Below.refl _ _).alloc (Nat.le_refl _) _, by simp, by simp [go_sem], by simp [go_sem], by simp [go_sem], by simp [go_sem], by simp [go_sem], by simp [go_sem]⟩
theorem Bx6.step {w W W' : World} {a0 a1 a2 a3 a4 a5 : Value} (h : Bx6 w W a0 a1 a2 a3 a4 a5) (hb : Below W.heap.size W W') : Bx6 w W' a0 a1 a2 a3 a4 a5 :=
  ⟨h.bel.trans (hb.mono h.bel.size), Nat.lt_of_lt_of_le h.lt hb.size, (hb.cell h.lt).trans h.c0, (hb.cell h.lt).trans h.c1, (hb.cell h.lt).trans h.c2, (hb.cell h.lt).trans h.c3, (hb.cell h.lt).trans h.c4, (hb.cell h.lt).trans h.c5⟩

set_option maxRecDepth 4000 in
set_option maxHeartbeats 1000000 in
theorem sortOK_any (p : Option Addr) (cap : Nat) (l : List Prt) (w : World) (hr : RowD w p l) (hl : l.length ≤ 1048576) (hs : ∀ v ∈ l, szPt v) :
    Calls Tryd.prog 20 #[.slice p l.length cap] w fun e w' => e = .returned (.bool (sortB l)) ∧ Below w.heap.size w w' := by
  have HC : Hid (Calls _ _ _ _ _) := anyWrongD_any p cap l w hr hl hs
  clear hr hs
  unfold sortB
  by_cases h2 : l.length ≤ 2
  · have a2 : (l.length : Int) ≤ 2 := by omega
    rw [decide_eq_true h2, Bool.true_and]
    obtain ⟨b, hb⟩ : ∃ b, b = l.all okPt := ⟨_, rfl⟩
    rw [← hb] at HC ⊢
    clear hb h2
    go_enter Tryd.func20, Tryd.ntmps20
    go_wp2_with fail
    refine HC.out.mono ?_
    rintro e w1 ⟨rfl, hb⟩
    go_wp2_with fail
    go_ret
    exact ⟨by simp, hb⟩
  · have a2 : ¬ (l.length : Int) ≤ 2 := by omega
    rw [decide_eq_false h2, Bool.false_and]
    clear h2
    go_enter Tryd.func20, Tryd.ntmps20
    go_wp2_with fail
    go_ret
    exact ⟨rfl, Below.refl _ _⟩
set_option maxRecDepth 4000 in
set_option maxHeartbeats 1000000 in
theorem keepOK_any (g cap : Nat) (l : List ByteArray) (w : World) (hr : ReadS w g 0 l) (hl : l.length ≤ 1048576) (hs : ∀ v ∈ l, v.size ≤ 1048576) :
    Calls Tryd.prog 22 #[.slice (some ⟨g, 0, none⟩) l.length cap] w fun e w' => e = .returned (.bool (keepB l)) ∧ Below w.heap.size w w' := by
  have HC : Hid (Calls _ _ _ _ _) := anyNoShort_any g cap l w hr hl hs
  clear hr hs
  unfold keepB
  by_cases h2 : l.length ≤ 4
  · have a2 : (l.length : Int) ≤ 4 := by omega
    rw [decide_eq_true h2, Bool.true_and]
    obtain ⟨b, hb⟩ : ∃ b, b = l.all shortB := ⟨_, rfl⟩
    rw [← hb] at HC ⊢
    clear hb h2
    go_enter Tryd.func22, Tryd.ntmps22
    go_wp2_with fail
    refine HC.out.mono ?_
    rintro e w1 ⟨rfl, hb⟩
    go_wp2_with fail
    go_ret
    exact ⟨by simp, hb⟩
  · have a2 : ¬ (l.length : Int) ≤ 4 := by omega
    rw [decide_eq_false h2, Bool.false_and]
    clear h2
    go_enter Tryd.func22, Tryd.ntmps22
    go_wp2_with fail
    go_ret
    exact ⟨rfl, Below.refl _ _⟩
theorem em_list : em.toList = [] := by first | (simp [em, ByteArray.toList_data]; done) | (simp [em]; done) | kernel_rfl | decide +kernel
set_option maxRecDepth 4000 in
set_option maxHeartbeats 1000000 in
theorem hintOK_any (t : ByteArray) (w : World) (hs : t.size ≤ 1048576) :
    Calls Tryd.prog 23 #[.string t] w fun e w' => e = .returned (.bool (hintB t)) ∧ Below w.heap.size w w' := by
  have HC : Hid (Calls _ _ _ _ _) := shortNameOK_any t w (by unfold maxLen; omega)
  unfold hintB
  cases he : (t.toList == em.toList)
  · obtain ⟨b, hb⟩ : ∃ b, b = shortB t := ⟨_, rfl⟩
    rw [← hb] at HC
    rw [Bool.false_or, ← hb]
    clear hb
    have he2 : (t.toList == []) = false := by rw [← em_list]; exact he
    have he3 : ¬ t.toList = [] := by simpa using he2
    go_enter Tryd.func23, Tryd.ntmps23
    go_wp2_with fail
    refine HC.out.mono ?_
    rintro e w1 ⟨rfl, rfl⟩
    go_wp2_with fail
    go_ret
    exact ⟨rfl, Below.refl _ _⟩
  · have he2 : (t.toList == []) = true := by rw [← em_list]; exact he
    have he3 : t.toList = [] := by simpa using he2
    rw [Bool.true_or]
    go_enter Tryd.func23, Tryd.ntmps23
    go_wp2_with fail
    go_ret
    exact ⟨rfl, Below.refl _ _⟩
set_option maxRecDepth 4000 in
set_option maxHeartbeats 1000000 in
theorem rowCountOK_any (n : Int) (w : World) :
    Calls Tryd.prog 21 #[.int .i64 n] w fun e w' => e = .returned (.bool (cntB n)) ∧ Below w.heap.size w w' := by
  unfold cntB
  by_cases h0 : 0 ≤ n
  · by_cases h1 : n ≤ 100
    · rw [decide_eq_true ⟨h0, h1⟩]
      go_enter Tryd.func21, Tryd.ntmps21
      go_wp2_with fail
      go_ret
      exact ⟨by simp [*], Below.refl _ _⟩
    · rw [decide_eq_false (fun h => h1 h.2)]
      go_enter Tryd.func21, Tryd.ntmps21
      go_wp2_with fail
      go_ret
      exact ⟨by simp [*], Below.refl _ _⟩
  · rw [decide_eq_false (fun h => h0 h.1)]
    go_enter Tryd.func21, Tryd.ntmps21
    go_wp2_with fail
    go_ret
    exact ⟨by simp [*], Below.refl _ _⟩

set_option maxRecDepth 4000 in
set_option maxHeartbeats 2000000 in
theorem queryOK_any (pf ps : Option Addr) (gk cf cs ck : Nat) (q : Qry) (w : World) (hr : RdQ w pf ps gk q) (hz : SzQ q) :
    Calls Tryd.prog 7 #[.agg #[.slice pf q.f.length cf, .slice ps q.so.length cs, .int .i64 q.skip, .int .i64 q.lim, .slice (some ⟨gk, 0, none⟩) q.keep.length ck, .string q.hint]] w fun e w' => e = .returned (.bool (qryB q)) ∧ Below w.heap.size w w' := by
  have X0 := Bx6.start w (.slice pf q.f.length cf) (.slice ps q.so.length cs) (.int .i64 q.skip) (.int .i64 q.lim) (.slice (some ⟨gk, 0, none⟩) q.keep.length ck) (.string q.hint) 36
  have H1 : Hid (∀ W : World, Below w.heap.size w W → Calls _ _ _ W _) := fun W hW => filterOK_any pf cf q.f W (hr.next hW).f hz.f0 hz.f1
  have H2 : Hid (∀ W : World, Below w.heap.size w W → Calls _ _ _ W _) := fun W hW => sortOK_any ps cs q.so W (hr.next hW).s hz.s0 hz.s1
  have H3 : Hid (∀ W : World, Calls _ _ _ W _) := fun W => rowCountOK_any q.skip W
  have H4 : Hid (∀ W : World, Calls _ _ _ W _) := fun W => rowCountOK_any q.lim W
  have H5 : Hid (∀ W : World, Below w.heap.size w W → Calls _ _ _ W _) := fun W hW => keepOK_any gk ck q.keep W (hr.next hW).k hz.k0 hz.k1
  have H6 : Hid (∀ W : World, Calls _ _ _ W _) := fun W => hintOK_any q.hint W hz.h0
  unfold qryB
  obtain ⟨b1, h1⟩ : ∃ b, b = filtB q.f := ⟨_, rfl⟩
  obtain ⟨b2, h2⟩ : ∃ b, b = sortB q.so := ⟨_, rfl⟩
  obtain ⟨b3, h3⟩ : ∃ b, b = cntB q.skip := ⟨_, rfl⟩
  obtain ⟨b4, h4⟩ : ∃ b, b = cntB q.lim := ⟨_, rfl⟩
  obtain ⟨b5, h5⟩ : ∃ b, b = keepB q.keep := ⟨_, rfl⟩
  obtain ⟨b6, h6⟩ : ∃ b, b = hintB q.hint := ⟨_, rfl⟩
  rw [← h1] at H1
  rw [← h2] at H2
  rw [← h3] at H3
  rw [← h4] at H4
  rw [← h5] at H5
  rw [← h6] at H6
  rw [← h1, ← h2, ← h3, ← h4, ← h5, ← h6]
  clear hr hz h1 h2 h3 h4 h5 h6
  go_enter Tryd.func7, Tryd.ntmps7
  go_wp2_with fail
  refine (H1.out _ X0.bel).mono ?_
  rintro e w1 ⟨rfl, hb⟩
  have X1 := X0.step hb
  have c1 := X1.c1
  have B1 := X1.bel
  clear hb X0 H1
  cases b1
  · go_wp2_with fail
    go_ret
    exact ⟨rfl, B1⟩
  go_wp2_with fail
  refine (H2.out _ X1.bel).mono ?_
  rintro e w2 ⟨rfl, hb⟩
  have X2 := X1.step hb
  have c2 := X2.c2
  have B2 := X2.bel
  clear hb X1 H2 c1 B1
  cases b2
  · go_wp2_with fail
    go_ret
    exact ⟨rfl, B2⟩
  go_wp2_with fail
  refine (H3.out _).mono ?_
  rintro e w3 ⟨rfl, hb⟩
  have X3 := X2.step hb
  have c3 := X3.c3
  have B3 := X3.bel
  clear hb X2 H3 c2 B2
  cases b3
  · go_wp2_with fail
    go_ret
    exact ⟨rfl, B3⟩
  go_wp2_with fail
  refine (H4.out _).mono ?_
  rintro e w4 ⟨rfl, hb⟩
  have X4 := X3.step hb
  have c4 := X4.c4
  have B4 := X4.bel
  clear hb X3 H4 c3 B3
  cases b4
  · go_wp2_with fail
    go_ret
    exact ⟨rfl, B4⟩
  go_wp2_with fail
  refine (H5.out _ X4.bel).mono ?_
  rintro e w5 ⟨rfl, hb⟩
  have X5 := X4.step hb
  have c5 := X5.c5
  have B5 := X5.bel
  clear hb X4 H5 c4 B4
  cases b5
  · go_wp2_with fail
    go_ret
    exact ⟨rfl, B5⟩
  go_wp2_with fail
  refine (H6.out _).mono ?_
  rintro e w6 ⟨rfl, hb⟩
  have B6 := (X5.step hb).bel
  clear hb X5 H6 c5 B5
  go_wp2_with fail
  go_ret
  exact ⟨by simp, B6⟩
end Go.Proofs.YtnmpfooegnmknaaDoor.Qr
