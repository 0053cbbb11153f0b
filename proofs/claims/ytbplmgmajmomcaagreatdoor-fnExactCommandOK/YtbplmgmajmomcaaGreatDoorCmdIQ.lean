/- Whether a command is right: what the program answers. -/
import Derived.Test.YtbplmgmajmomcaaGreatDoorUpdLQ
import Derived.Test.YtbplmgmajmomcaaGreatDoorQryIQ
import Derived.Test.YtbplmgmajmomcaaGreatDoorDefEQ
import Derived.Test.YtbplmgmajmomcaaGreatDoorDefSQ
import Derived.Test.YtbplmgmajmomcaaGreatDoorDocBQ
namespace Go.Proofs.YtbplmgmajmomcaaGreatDoor.Cm
open Go.RowKit
open Tr Qr
set_option linter.unusedVariables false

/-- A command, its texts as bytes. -/
structure Cmd where
  kind : Int
  sess : Int
  coll : ByteArray
  doc : Val
  q : Qry
  us : List Up.Trm
  dn : ByteArray
  dp : List Prt
def sessB (n : Int) : Bool := decide (0 ≤ n) && decide (n < 4)
/-- What a command of a collection has a use for. -/
def useB (c : Cmd) : Bool :=
  if c.kind = 4 then docB c.doc else if c.kind = 5 ∨ c.kind = 8 then qryB c.q else if c.kind = 6 then filtB c.q.f && Up.updsB c.us else if c.kind = 7 then filtB c.q.f else if c.kind = 9 then defB c.dn c.dp else if c.kind = 10 then shortB c.dn else false
def cmdB (c : Cmd) : Bool := sessB c.sess && (if c.kind = 1 ∨ c.kind = 2 ∨ c.kind = 3 then true else shortB c.coll && useB c)
structure SzCm (c : Cmd) : Prop where
  n : c.coll.size ≤ 1048576
  t : c.doc.t.size ≤ 1048576
  q : SzQ c.q
  u0 : c.us.length ≤ 1048576
  u1 : ∀ v ∈ c.us, Up.szT v
  d0 : c.dn.size ≤ 1048576
  d1 : c.dp.length ≤ 1048576
  d2 : ∀ v ∈ c.dp, szPt v
/-- Where a command's rows lie. -/
structure RdCm (W : World) (pf ps : Option Addr) (gk : Nat) (pu pd : Option Addr) (c : Cmd) : Prop where
  q : RdQ W pf ps gk c.q
  u : Up.RowT W pu c.us
  d : RowD W pd c.dp
theorem RdCm.next {W W' : World} {pf ps pu pd : Option Addr} {gk : Nat} {c : Cmd} (h : RdCm W pf ps gk pu pd c) (hb : Below W.heap.size W W') : RdCm W' pf ps gk pu pd c := ⟨h.q.next hb, h.u.next hb, h.d.next hb⟩
theorem fif {W : World} {b : Nat} {T : TypeId} {m : Nat × Nat} {v0 v1 v2 v3 v4 v5 v6 v7 v8 v9 v10 v11 v12 v13 v14 : Value} (h : W.heap[b]? = some (.cells #[v0, v1, v2, v3, v4, v5, v6, v7, v8, v9, v10, v11, v12, v13, v14] T m)) :
    W.cell? ⟨b, 0, none⟩ = some v0 ∧ W.cell? ⟨b, 1, none⟩ = some v1 ∧ W.cell? ⟨b, 2, none⟩ = some v2 ∧ W.cell? ⟨b, 3, none⟩ = some v3 ∧ W.cell? ⟨b, 4, none⟩ = some v4 ∧ W.cell? ⟨b, 5, none⟩ = some v5 ∧ W.cell? ⟨b, 6, none⟩ = some v6 ∧ W.cell? ⟨b, 7, none⟩ = some v7 ∧ W.cell? ⟨b, 8, none⟩ = some v8 ∧ W.cell? ⟨b, 9, none⟩ = some v9 ∧ W.cell? ⟨b, 10, none⟩ = some v10 ∧ W.cell? ⟨b, 11, none⟩ = some v11 ∧ W.cell? ⟨b, 12, none⟩ = some v12 ∧ W.cell? ⟨b, 13, none⟩ = some v13 ∧ W.cell? ⟨b, 14, none⟩ = some v14 := by
  refine ⟨?_, ?_, ?_, ?_, ?_, ?_, ?_, ?_, ?_, ?_, ?_, ?_, ?_, ?_, ?_⟩ <;> simp [World.cell?, h]
/-- A command in the first new block. -/
structure Bx15 (w W : World) (vs : Array Value) (T : TypeId) : Prop where
  bel : Below w.heap.size w W
  lt : w.heap.size < W.heap.size
  cb : W.heap[w.heap.size]? = some (.cells vs T (0, 0))
theorem Bx15.start (w : World) (vs : Array Value) (T : TypeId) : Bx15 w (w.alloc (.cells vs T)) vs T := ⟨(Below.refl _ _).alloc (Nat.le_refl _) _, by simp, heap_alloc_new _ _⟩
theorem Bx15.step {w W W' : World} {vs : Array Value} {T : TypeId} (h : Bx15 w W vs T) (hb : Below W.heap.size W W') : Bx15 w W' vs T := ⟨h.bel.trans (hb.mono h.bel.size), Nat.lt_of_lt_of_le h.lt hb.size, (hb.block _ h.lt).trans h.cb⟩

set_option maxRecDepth 4000 in
set_option maxHeartbeats 1000000 in
theorem sessionOK_any (n : Int) (w : World) :
    Calls Tryz.prog 63 #[.int .i64 n] w fun e w' => e = .returned (.bool (sessB n)) ∧ w' = w := by
  unfold sessB
  by_cases h0 : 0 ≤ n
  · rw [decide_eq_true h0, Bool.true_and]
    go_enter Tryz.func63, Tryz.ntmps63
    go_wp2_with fail
    go_ret
    exact ⟨by simp, rfl⟩
  · rw [decide_eq_false h0, Bool.false_and]
    go_enter Tryz.func63, Tryz.ntmps63
    go_wp2_with fail
    go_ret
    exact ⟨rfl, rfl⟩

set_option maxRecDepth 4000 in
set_option maxHeartbeats 4000000 in
theorem hasItsUse_any (pf ps pu pd : Option Addr) (gk cf cs ck cu cd : Nat) (c : Cmd) (w : World) (hr : RdCm w pf ps gk pu pd c) (hz : SzCm c) (hcd : c.dp.length ≤ cd) :
    Calls Tryz.prog 65 #[.agg #[.int .i64 c.kind, .int .i64 c.sess, .string c.coll, .int .i64 c.doc.k, .int .i64 c.doc.n, .string c.doc.t, .slice pf c.q.f.length cf, .slice ps c.q.so.length cs, .int .i64 c.q.skip, .int .i64 c.q.lim, .slice (some ⟨gk, 0, none⟩) c.q.keep.length ck, .string c.q.hint, .slice pu c.us.length cu, .string c.dn, .slice pd c.dp.length cd]] w fun e w' => e = .returned (.bool (useB c)) ∧ Below w.heap.size w w' := by
  have X0 := Bx15.start w #[.int .i64 c.kind, .int .i64 c.sess, .string c.coll, .int .i64 c.doc.k, .int .i64 c.doc.n, .string c.doc.t, .slice pf c.q.f.length cf, .slice ps c.q.so.length cs, .int .i64 c.q.skip, .int .i64 c.q.lim, .slice (some ⟨gk, 0, none⟩) c.q.keep.length ck, .string c.q.hint, .slice pu c.us.length cu, .string c.dn, .slice pd c.dp.length cd] 64
  have HD : Hid (∀ W : World, Calls _ _ _ W _) := fun W => documentOK_any c.doc W hz.t
  have HQ : Hid (∀ W : World, Below w.heap.size w W → Calls _ _ _ W _) := fun W hW => queryOK_any pf ps gk cf cs ck c.q W (hr.next hW).q hz.q
  have HF : Hid (∀ W : World, Below w.heap.size w W → Calls _ _ _ W _) := fun W hW => filterOK_any pf cf c.q.f W (hr.next hW).q.f hz.q.f0 hz.q.f1
  have HU : Hid (∀ W : World, Below w.heap.size w W → Calls _ _ _ W _) := fun W hW => Up.updatesOK_any pu cu c.us W (hr.next hW).u hz.u0 hz.u1
  have HE : Hid (∀ W : World, Below w.heap.size w W → Calls _ _ _ W _) := fun W hW => defOK_any c.dn pd cd c.dp W (hr.next hW).d hz.d0 hz.d1 hcd hz.d2
  have HN : Hid (∀ W : World, Calls _ _ _ W _) := fun W => shortNameOK_any c.dn W (by have := hz.d0; unfold maxLen; omega)
  clear hr hz hcd
  by_cases h4 : c.kind = 4
  · have hu : useB c = (docB c.doc) := by unfold useB; rw [if_pos (by omega)]
    rw [hu]
    rw [h4] at X0 ⊢
    obtain ⟨x0, x1, x2, x3, x4, x5, x6, x7, x8, x9, x10, x11, x12, x13, x14⟩ := fif X0.cb
    have xl := X0.lt
    have xb := X0.bel
    obtain ⟨bHD, hHD⟩ : ∃ b, b = docB c.doc := ⟨_, rfl⟩
    rw [← hHD] at HD ⊢
    clear hHD
    clear hu
    clear h4
    go_enter Tryz.func65, Tryz.ntmps65
    go_wp2_with fail
    refine (HD.out _).mono ?_
    rintro e w1 ⟨rfl, hb⟩
    have X1 := X0.step hb
    have xb1 := X1.bel
    go_wp2_with fail
    go_ret
    exact ⟨rfl, xb1⟩
  by_cases h5 : c.kind = 5
  · have hu : useB c = (qryB c.q) := by unfold useB; rw [if_neg (by omega), if_pos (by omega)]
    rw [hu]
    rw [h5] at X0 ⊢
    obtain ⟨x0, x1, x2, x3, x4, x5, x6, x7, x8, x9, x10, x11, x12, x13, x14⟩ := fif X0.cb
    have xl := X0.lt
    have xb := X0.bel
    obtain ⟨bHQ, hHQ⟩ : ∃ b, b = qryB c.q := ⟨_, rfl⟩
    rw [← hHQ] at HQ ⊢
    clear hHQ
    clear hu
    clear h4 h5
    go_enter Tryz.func65, Tryz.ntmps65
    go_wp2_with fail
    refine (HQ.out _ X0.bel).mono ?_
    rintro e w1 ⟨rfl, hb⟩
    have X1 := X0.step hb
    have xb1 := X1.bel
    go_wp2_with fail
    go_ret
    exact ⟨rfl, xb1⟩
  by_cases h8 : c.kind = 8
  · have hu : useB c = (qryB c.q) := by unfold useB; rw [if_neg (by omega), if_pos (by omega)]
    rw [hu]
    rw [h8] at X0 ⊢
    obtain ⟨x0, x1, x2, x3, x4, x5, x6, x7, x8, x9, x10, x11, x12, x13, x14⟩ := fif X0.cb
    have xl := X0.lt
    have xb := X0.bel
    obtain ⟨bHQ, hHQ⟩ : ∃ b, b = qryB c.q := ⟨_, rfl⟩
    rw [← hHQ] at HQ ⊢
    clear hHQ
    clear hu
    clear h4 h5 h8
    go_enter Tryz.func65, Tryz.ntmps65
    go_wp2_with fail
    refine (HQ.out _ X0.bel).mono ?_
    rintro e w1 ⟨rfl, hb⟩
    have X1 := X0.step hb
    have xb1 := X1.bel
    go_wp2_with fail
    go_ret
    exact ⟨rfl, xb1⟩
  by_cases h6 : c.kind = 6
  · have hu : useB c = (filtB c.q.f && Up.updsB c.us) := by unfold useB; rw [if_neg (by omega), if_neg (by omega), if_pos (by omega)]
    rw [hu]
    rw [h6] at X0 ⊢
    obtain ⟨x0, x1, x2, x3, x4, x5, x6, x7, x8, x9, x10, x11, x12, x13, x14⟩ := fif X0.cb
    have xl := X0.lt
    have xb := X0.bel
    obtain ⟨bHF, hHF⟩ : ∃ b, b = filtB c.q.f := ⟨_, rfl⟩
    rw [← hHF] at HF ⊢
    clear hHF
    obtain ⟨bHU, hHU⟩ : ∃ b, b = Up.updsB c.us := ⟨_, rfl⟩
    rw [← hHU] at HU ⊢
    clear hHU
    clear hu
    clear h4 h5 h8 h6
    go_enter Tryz.func65, Tryz.ntmps65
    go_wp2_with fail
    refine (HF.out _ X0.bel).mono ?_
    rintro e w1 ⟨rfl, hb⟩
    have X1 := X0.step hb
    have xb1 := X1.bel
    obtain ⟨y0, y1, y2, y3, y4, y5, y6, y7, y8, y9, y10, y11, y12, y13, y14⟩ := fif X1.cb
    have yl := X1.lt
    cases bHF
    · go_wp2_with fail
      go_ret
      exact ⟨rfl, xb1⟩
    go_wp2_with fail
    refine (HU.out _ X1.bel).mono ?_
    rintro e w2 ⟨rfl, hb⟩
    have X2 := X1.step hb
    have xb2 := X2.bel
    go_wp2_with fail
    go_ret
    exact ⟨by simp, xb2⟩
  by_cases h7 : c.kind = 7
  · have hu : useB c = (filtB c.q.f) := by unfold useB; rw [if_neg (by omega), if_neg (by omega), if_neg (by omega), if_pos (by omega)]
    rw [hu]
    rw [h7] at X0 ⊢
    obtain ⟨x0, x1, x2, x3, x4, x5, x6, x7, x8, x9, x10, x11, x12, x13, x14⟩ := fif X0.cb
    have xl := X0.lt
    have xb := X0.bel
    obtain ⟨bHF, hHF⟩ : ∃ b, b = filtB c.q.f := ⟨_, rfl⟩
    rw [← hHF] at HF ⊢
    clear hHF
    clear hu
    clear h4 h5 h8 h6 h7
    go_enter Tryz.func65, Tryz.ntmps65
    go_wp2_with fail
    refine (HF.out _ X0.bel).mono ?_
    rintro e w1 ⟨rfl, hb⟩
    have X1 := X0.step hb
    have xb1 := X1.bel
    go_wp2_with fail
    go_ret
    exact ⟨rfl, xb1⟩
  by_cases h9 : c.kind = 9
  · have hu : useB c = (defB c.dn c.dp) := by unfold useB; rw [if_neg (by omega), if_neg (by omega), if_neg (by omega), if_neg (by omega), if_pos (by omega)]
    rw [hu]
    rw [h9] at X0 ⊢
    obtain ⟨x0, x1, x2, x3, x4, x5, x6, x7, x8, x9, x10, x11, x12, x13, x14⟩ := fif X0.cb
    have xl := X0.lt
    have xb := X0.bel
    obtain ⟨bHE, hHE⟩ : ∃ b, b = defB c.dn c.dp := ⟨_, rfl⟩
    rw [← hHE] at HE ⊢
    clear hHE
    clear hu
    clear h4 h5 h8 h6 h7 h9
    go_enter Tryz.func65, Tryz.ntmps65
    go_wp2_with fail
    refine (HE.out _ X0.bel).mono ?_
    rintro e w1 ⟨rfl, hb⟩
    have X1 := X0.step hb
    have xb1 := X1.bel
    go_wp2_with fail
    go_ret
    exact ⟨rfl, xb1⟩
  by_cases h10 : c.kind = 10
  · have hu : useB c = (shortB c.dn) := by unfold useB; rw [if_neg (by omega), if_neg (by omega), if_neg (by omega), if_neg (by omega), if_neg (by omega), if_pos (by omega)]
    rw [hu]
    rw [h10] at X0 ⊢
    obtain ⟨x0, x1, x2, x3, x4, x5, x6, x7, x8, x9, x10, x11, x12, x13, x14⟩ := fif X0.cb
    have xl := X0.lt
    have xb := X0.bel
    obtain ⟨bHN, hHN⟩ : ∃ b, b = shortB c.dn := ⟨_, rfl⟩
    rw [← hHN] at HN ⊢
    clear hHN
    clear hu
    clear h4 h5 h8 h6 h7 h9 h10
    go_enter Tryz.func65, Tryz.ntmps65
    go_wp2_with fail
    refine (HN.out _).mono ?_
    rintro e w1 ⟨rfl, rfl⟩
    go_wp2_with fail
    go_ret
    exact ⟨rfl, xb⟩
  have hu : useB c = false := by unfold useB; rw [if_neg (by omega), if_neg (by omega), if_neg (by omega), if_neg (by omega), if_neg (by omega), if_neg (by omega)]
  rw [hu]
  obtain ⟨x0, x1, x2, x3, x4, x5, x6, x7, x8, x9, x10, x11, x12, x13, x14⟩ := fif X0.cb
  have xl := X0.lt
  have xb := X0.bel
  go_enter Tryz.func65, Tryz.ntmps65
  go_wp2_with fail
  go_ret
  exact ⟨rfl, xb⟩

set_option maxRecDepth 4000 in
set_option maxHeartbeats 4000000 in
theorem commandOK_any (pf ps pu pd : Option Addr) (gk cf cs ck cu cd : Nat) (c : Cmd) (w : World) (hr : RdCm w pf ps gk pu pd c) (hz : SzCm c) (hcd : c.dp.length ≤ cd) :
    Calls Tryz.prog 16 #[.agg #[.int .i64 c.kind, .int .i64 c.sess, .string c.coll, .int .i64 c.doc.k, .int .i64 c.doc.n, .string c.doc.t, .slice pf c.q.f.length cf, .slice ps c.q.so.length cs, .int .i64 c.q.skip, .int .i64 c.q.lim, .slice (some ⟨gk, 0, none⟩) c.q.keep.length ck, .string c.q.hint, .slice pu c.us.length cu, .string c.dn, .slice pd c.dp.length cd]] w fun e w' => e = .returned (.bool (cmdB c)) ∧ Below w.heap.size w w' := by
  have X0 := Bx15.start w #[.int .i64 c.kind, .int .i64 c.sess, .string c.coll, .int .i64 c.doc.k, .int .i64 c.doc.n, .string c.doc.t, .slice pf c.q.f.length cf, .slice ps c.q.so.length cs, .int .i64 c.q.skip, .int .i64 c.q.lim, .slice (some ⟨gk, 0, none⟩) c.q.keep.length ck, .string c.q.hint, .slice pu c.us.length cu, .string c.dn, .slice pd c.dp.length cd] 64
  have HS : Hid (∀ W : World, Calls _ _ _ W _) := fun W => sessionOK_any c.sess W
  have HC : Hid (∀ W : World, Calls _ _ _ W _) := fun W => shortNameOK_any c.coll W (by have := hz.n; unfold maxLen; omega)
  have HU : Hid (∀ W : World, Below w.heap.size w W → Calls _ _ _ W _) := fun W hW => hasItsUse_any pf ps pu pd gk cf cs ck cu cd c W (hr.next hW) hz hcd
  clear hr hz hcd
  unfold cmdB
  obtain ⟨b0, h0⟩ : ∃ b, b = sessB c.sess := ⟨_, rfl⟩
  rw [← h0] at HS ⊢
  clear h0
  cases b0
  · rw [Bool.false_and]
    obtain ⟨x0, x1, x2, x3, x4, x5, x6, x7, x8, x9, x10, x11, x12, x13, x14⟩ := fif X0.cb
    have xl := X0.lt
    have xb := X0.bel
    go_enter Tryz.func16, Tryz.ntmps16
    go_wp2_with fail
    refine (HS.out _).mono ?_
    rintro e w1 ⟨rfl, rfl⟩
    go_wp2_with fail
    go_ret
    exact ⟨rfl, xb⟩
  rw [Bool.true_and]
  by_cases h1 : c.kind = 1
  · rw [if_pos (by omega)]
    rw [h1] at X0 ⊢
    obtain ⟨x0, x1, x2, x3, x4, x5, x6, x7, x8, x9, x10, x11, x12, x13, x14⟩ := fif X0.cb
    have xl := X0.lt
    have xb := X0.bel
    clear h1
    go_enter Tryz.func16, Tryz.ntmps16
    go_wp2_with fail
    refine (HS.out _).mono ?_
    rintro e w1 ⟨rfl, rfl⟩
    go_wp2_with fail
    go_ret
    exact ⟨rfl, xb⟩
  by_cases h2 : c.kind = 2
  · rw [if_pos (by omega)]
    rw [h2] at X0 ⊢
    obtain ⟨x0, x1, x2, x3, x4, x5, x6, x7, x8, x9, x10, x11, x12, x13, x14⟩ := fif X0.cb
    have xl := X0.lt
    have xb := X0.bel
    clear h2
    go_enter Tryz.func16, Tryz.ntmps16
    go_wp2_with fail
    refine (HS.out _).mono ?_
    rintro e w1 ⟨rfl, rfl⟩
    go_wp2_with fail
    go_ret
    exact ⟨rfl, xb⟩
  by_cases h3 : c.kind = 3
  · rw [if_pos (by omega)]
    rw [h3] at X0 ⊢
    obtain ⟨x0, x1, x2, x3, x4, x5, x6, x7, x8, x9, x10, x11, x12, x13, x14⟩ := fif X0.cb
    have xl := X0.lt
    have xb := X0.bel
    clear h3
    go_enter Tryz.func16, Tryz.ntmps16
    go_wp2_with fail
    refine (HS.out _).mono ?_
    rintro e w1 ⟨rfl, rfl⟩
    go_wp2_with fail
    go_ret
    exact ⟨rfl, xb⟩
  rw [if_neg (by omega)]
  obtain ⟨b1, h1'⟩ : ∃ b, b = shortB c.coll := ⟨_, rfl⟩
  rw [← h1'] at HC ⊢
  clear h1'
  obtain ⟨b2, h2'⟩ : ∃ b, b = useB c := ⟨_, rfl⟩
  rw [← h2'] at HU ⊢
  clear h2'
  obtain ⟨x0, x1, x2, x3, x4, x5, x6, x7, x8, x9, x10, x11, x12, x13, x14⟩ := fif X0.cb
  have xl := X0.lt
  have xb := X0.bel
  go_enter Tryz.func16, Tryz.ntmps16
  go_wp2_with fail
  refine (HS.out _).mono ?_
  rintro e w1 ⟨rfl, rfl⟩
  go_wp2_with fail
  refine (HC.out _).mono ?_
  rintro e w2 ⟨rfl, rfl⟩
  cases b1
  · go_wp2_with fail
    go_ret
    exact ⟨rfl, xb⟩
  go_wp2_with fail
  refine (HU.out _ X0.bel).mono ?_
  rintro e w3 ⟨rfl, hb⟩
  have xb3 := (X0.step hb).bel
  clear hb
  go_wp2_with fail
  go_ret
  exact ⟨by simp, xb3⟩

end Go.Proofs.YtbplmgmajmomcaaGreatDoor.Cm

/- Whether a command is right: what the specification answers. -/
namespace Go.Proofs.YtbplmgmajmomcaaGreatDoor.Cm
open Go.RowKit
open Tr Qr
set_option linter.unusedVariables false

theorem def_short (n : ByteArray) (l : List Prt) (h : shortB n = false) : defB n l = false := by unfold defB; rw [h, Bool.false_and]
set_option maxRecDepth 4000 in
set_option maxHeartbeats 4000000 in
theorem specCommand_any (pf ps pu pd : Option Addr) (gk cf cs ck cu cd : Nat) (c : Cmd) (w : World) (hr : RdCm w pf ps gk pu pd c) (hz : SzCm c) (hcd : c.dp.length ≤ cd) :
    Calls Tryz.prog 14 #[.agg #[.int .i64 c.kind, .int .i64 c.sess, .string c.coll, .int .i64 c.doc.k, .int .i64 c.doc.n, .string c.doc.t, .slice pf c.q.f.length cf, .slice ps c.q.so.length cs, .int .i64 c.q.skip, .int .i64 c.q.lim, .slice (some ⟨gk, 0, none⟩) c.q.keep.length ck, .string c.q.hint, .slice pu c.us.length cu, .string c.dn, .slice pd c.dp.length cd]] w fun e w' => e = .returned (.bool (cmdB c)) ∧ Below w.heap.size w w' := by
  have X0 := Bx15.start w #[.int .i64 c.kind, .int .i64 c.sess, .string c.coll, .int .i64 c.doc.k, .int .i64 c.doc.n, .string c.doc.t, .slice pf c.q.f.length cf, .slice ps c.q.so.length cs, .int .i64 c.q.skip, .int .i64 c.q.lim, .slice (some ⟨gk, 0, none⟩) c.q.keep.length ck, .string c.q.hint, .slice pu c.us.length cu, .string c.dn, .slice pd c.dp.length cd] 64
  have HK : Hid (∀ W : World, Calls _ _ _ W _) := fun W => l01In_any c.kind 1 10 W
  have HS : Hid (∀ W : World, Calls _ _ _ W _) := fun W => l01In_any c.sess 0 3 W
  have HD : Hid (∀ W : World, Calls _ _ _ W _) := fun W => l03Doc_any c.doc W hz.t
  have HQ : Hid (∀ W : World, Below w.heap.size w W → Calls _ _ _ W _) := fun W hW => specQuery_any pf ps gk cf cs ck c.q W (hr.next hW).q hz.q
  have HF : Hid (∀ W : World, Below w.heap.size w W → Calls _ _ _ W _) := fun W hW => specFilt_any pf cf c.q.f W (hr.next hW).q.f hz.q.f0 hz.q.f1
  have HU : Hid (∀ W : World, Below w.heap.size w W → Calls _ _ _ W _) := fun W hW => Up.l02Updates_any pu cu c.us W (hr.next hW).u hz.u0 hz.u1
  have HE : Hid (∀ W : World, Below w.heap.size w W → Calls _ _ _ W _) := fun W hW => specDef_any c.dn pd cd c.dp W (hr.next hW).d hz.d0 hz.d1 hz.d2
  have HN : Hid (∀ W : World, Calls _ _ _ W _) := fun W => l01Name_any c.dn W (by have := hz.d0; unfold maxLen; omega)
  have HC : Hid (∀ W : World, Calls _ _ _ W _) := fun W => l01Name_any c.coll W (by have := hz.n; unfold maxLen; omega)
  clear hr hz hcd
  have HSB : Hid (decide (0 ≤ c.sess ∧ c.sess ≤ 3) = sessB c.sess) := by
    show _ = _
    unfold sessB
    rw [Bool.decide_and]
    congr 1
    by_cases h : c.sess ≤ 3
    · rw [decide_eq_true h, decide_eq_true (by omega)]
    · rw [decide_eq_false h, decide_eq_false (by omega)]
  by_cases hin : 1 ≤ c.kind ∧ c.kind ≤ 10
  case neg =>
    have hK := HK.out
    rw [decide_eq_false hin] at hK
    have HK' : Hid (∀ W : World, Calls _ _ _ W _) := hK
    have hcm : cmdB c = false := by
      unfold cmdB useB
      rw [if_neg (by omega), if_neg (by omega), if_neg (by omega), if_neg (by omega), if_neg (by omega), if_neg (by omega), if_neg (by omega), Bool.and_false, Bool.and_false]
    rw [hcm]
    clear hK HK hcm
    obtain ⟨x0, x1, x2, x3, x4, x5, x6, x7, x8, x9, x10, x11, x12, x13, x14⟩ := fif X0.cb
    have xl := X0.lt
    have xb := X0.bel
    go_enter Tryz.func14, Tryz.ntmps14
    go_wp2_with fail
    refine (HK'.out _).mono ?_
    rintro e w1 ⟨rfl, rfl⟩
    go_wp2_with fail
    go_ret
    exact ⟨rfl, xb⟩
  have hK := HK.out
  rw [decide_eq_true hin] at hK
  have HK' : Hid (∀ W : World, Calls _ _ _ W _) := hK
  have hS := HS.out
  rw [HSB.out] at hS
  have HS' : Hid (∀ W : World, Calls _ _ _ W _) := hS
  clear hK hS HK HS HSB
  unfold cmdB
  obtain ⟨b0, h0⟩ : ∃ b, b = sessB c.sess := ⟨_, rfl⟩
  rw [← h0] at HS' ⊢
  clear h0
  cases b0
  · rw [Bool.false_and]
    obtain ⟨x0, x1, x2, x3, x4, x5, x6, x7, x8, x9, x10, x11, x12, x13, x14⟩ := fif X0.cb
    have xl := X0.lt
    have xb := X0.bel
    go_enter Tryz.func14, Tryz.ntmps14
    go_wp2_with fail
    refine (HK'.out _).mono ?_
    rintro e w1 ⟨rfl, rfl⟩
    go_wp2_with fail
    refine (HS'.out _).mono ?_
    rintro e w2 ⟨rfl, rfl⟩
    go_wp2_with fail
    go_ret
    exact ⟨rfl, xb⟩
  rw [Bool.true_and]
  by_cases h1 : c.kind = 1
  · rw [if_pos (by omega)]
    rw [h1] at X0 HK' ⊢
    clear h1 hin
    obtain ⟨x0, x1, x2, x3, x4, x5, x6, x7, x8, x9, x10, x11, x12, x13, x14⟩ := fif X0.cb
    have xl := X0.lt
    have xb := X0.bel
    go_enter Tryz.func14, Tryz.ntmps14
    go_wp2_with fail
    refine (HK'.out _).mono ?_
    rintro e w1 ⟨rfl, rfl⟩
    go_wp2_with fail
    refine (HS'.out _).mono ?_
    rintro e w2 ⟨rfl, rfl⟩
    go_wp2_with fail
    go_ret
    exact ⟨rfl, xb⟩
  by_cases h2 : c.kind = 2
  · rw [if_pos (by omega)]
    rw [h2] at X0 HK' ⊢
    clear h2 hin
    obtain ⟨x0, x1, x2, x3, x4, x5, x6, x7, x8, x9, x10, x11, x12, x13, x14⟩ := fif X0.cb
    have xl := X0.lt
    have xb := X0.bel
    go_enter Tryz.func14, Tryz.ntmps14
    go_wp2_with fail
    refine (HK'.out _).mono ?_
    rintro e w1 ⟨rfl, rfl⟩
    go_wp2_with fail
    refine (HS'.out _).mono ?_
    rintro e w2 ⟨rfl, rfl⟩
    go_wp2_with fail
    go_ret
    exact ⟨rfl, xb⟩
  by_cases h3 : c.kind = 3
  · rw [if_pos (by omega)]
    rw [h3] at X0 HK' ⊢
    clear h3 hin
    obtain ⟨x0, x1, x2, x3, x4, x5, x6, x7, x8, x9, x10, x11, x12, x13, x14⟩ := fif X0.cb
    have xl := X0.lt
    have xb := X0.bel
    go_enter Tryz.func14, Tryz.ntmps14
    go_wp2_with fail
    refine (HK'.out _).mono ?_
    rintro e w1 ⟨rfl, rfl⟩
    go_wp2_with fail
    refine (HS'.out _).mono ?_
    rintro e w2 ⟨rfl, rfl⟩
    go_wp2_with fail
    go_ret
    exact ⟨rfl, xb⟩
  rw [if_neg (by omega)]
  obtain ⟨bC, hC'⟩ : ∃ b, b = shortB c.coll := ⟨_, rfl⟩
  rw [← hC'] at HC ⊢
  clear hC'
  by_cases h4 : c.kind = 4
  · have hu : useB c = (docB c.doc) := by unfold useB; rw [if_pos (by omega)]
    rw [hu]
    clear hu
    rw [h4] at X0 HK' ⊢
    obtain ⟨bHD, hHD⟩ : ∃ b, b = docB c.doc := ⟨_, rfl⟩
    rw [← hHD] at HD ⊢
    clear hHD
    clear hin h1 h2 h3 h4
    obtain ⟨x0, x1, x2, x3, x4, x5, x6, x7, x8, x9, x10, x11, x12, x13, x14⟩ := fif X0.cb
    have xl := X0.lt
    have xb := X0.bel
    go_enter Tryz.func14, Tryz.ntmps14
    go_wp2_with fail
    refine (HK'.out _).mono ?_
    rintro e w1 ⟨rfl, rfl⟩
    go_wp2_with fail
    refine (HS'.out _).mono ?_
    rintro e w2 ⟨rfl, rfl⟩
    go_wp2_with fail
    refine (HC.out _).mono ?_
    rintro e w3 ⟨rfl, rfl⟩
    cases bC
    · go_wp2_with fail
      go_ret
      exact ⟨rfl, xb⟩
    go_wp2_with fail
    refine (HD.out _).mono ?_
    rintro e w4 ⟨rfl, hb⟩
    have X4 := X0.step hb
    have xb4 := X4.bel
    go_wp2_with fail
    go_ret
    exact ⟨by simp, xb4⟩
  by_cases h5 : c.kind = 5
  · have hu : useB c = (qryB c.q) := by unfold useB; rw [if_neg (by omega), if_pos (by omega)]
    rw [hu]
    clear hu
    rw [h5] at X0 HK' ⊢
    obtain ⟨bHQ, hHQ⟩ : ∃ b, b = qryB c.q := ⟨_, rfl⟩
    rw [← hHQ] at HQ ⊢
    clear hHQ
    clear hin h1 h2 h3 h4 h5
    obtain ⟨x0, x1, x2, x3, x4, x5, x6, x7, x8, x9, x10, x11, x12, x13, x14⟩ := fif X0.cb
    have xl := X0.lt
    have xb := X0.bel
    go_enter Tryz.func14, Tryz.ntmps14
    go_wp2_with fail
    refine (HK'.out _).mono ?_
    rintro e w1 ⟨rfl, rfl⟩
    go_wp2_with fail
    refine (HS'.out _).mono ?_
    rintro e w2 ⟨rfl, rfl⟩
    go_wp2_with fail
    refine (HC.out _).mono ?_
    rintro e w3 ⟨rfl, rfl⟩
    cases bC
    · go_wp2_with fail
      go_ret
      exact ⟨rfl, xb⟩
    go_wp2_with fail
    refine (HQ.out _ X0.bel).mono ?_
    rintro e w4 ⟨rfl, hb⟩
    have X4 := X0.step hb
    have xb4 := X4.bel
    go_wp2_with fail
    go_ret
    exact ⟨by simp, xb4⟩
  by_cases h8 : c.kind = 8
  · have hu : useB c = (qryB c.q) := by unfold useB; rw [if_neg (by omega), if_pos (by omega)]
    rw [hu]
    clear hu
    rw [h8] at X0 HK' ⊢
    obtain ⟨bHQ, hHQ⟩ : ∃ b, b = qryB c.q := ⟨_, rfl⟩
    rw [← hHQ] at HQ ⊢
    clear hHQ
    clear hin h1 h2 h3 h4 h5 h8
    obtain ⟨x0, x1, x2, x3, x4, x5, x6, x7, x8, x9, x10, x11, x12, x13, x14⟩ := fif X0.cb
    have xl := X0.lt
    have xb := X0.bel
    go_enter Tryz.func14, Tryz.ntmps14
    go_wp2_with fail
    refine (HK'.out _).mono ?_
    rintro e w1 ⟨rfl, rfl⟩
    go_wp2_with fail
    refine (HS'.out _).mono ?_
    rintro e w2 ⟨rfl, rfl⟩
    go_wp2_with fail
    refine (HC.out _).mono ?_
    rintro e w3 ⟨rfl, rfl⟩
    cases bC
    · go_wp2_with fail
      go_ret
      exact ⟨rfl, xb⟩
    go_wp2_with fail
    refine (HQ.out _ X0.bel).mono ?_
    rintro e w4 ⟨rfl, hb⟩
    have X4 := X0.step hb
    have xb4 := X4.bel
    go_wp2_with fail
    go_ret
    exact ⟨by simp, xb4⟩
  by_cases h6 : c.kind = 6
  · have hu : useB c = (filtB c.q.f && Up.updsB c.us) := by unfold useB; rw [if_neg (by omega), if_neg (by omega), if_pos (by omega)]
    rw [hu]
    clear hu
    rw [h6] at X0 HK' ⊢
    obtain ⟨bHF, hHF⟩ : ∃ b, b = filtB c.q.f := ⟨_, rfl⟩
    rw [← hHF] at HF ⊢
    clear hHF
    obtain ⟨bHU, hHU⟩ : ∃ b, b = Up.updsB c.us := ⟨_, rfl⟩
    rw [← hHU] at HU ⊢
    clear hHU
    clear hin h1 h2 h3 h4 h5 h8 h6
    obtain ⟨x0, x1, x2, x3, x4, x5, x6, x7, x8, x9, x10, x11, x12, x13, x14⟩ := fif X0.cb
    have xl := X0.lt
    have xb := X0.bel
    go_enter Tryz.func14, Tryz.ntmps14
    go_wp2_with fail
    refine (HK'.out _).mono ?_
    rintro e w1 ⟨rfl, rfl⟩
    go_wp2_with fail
    refine (HS'.out _).mono ?_
    rintro e w2 ⟨rfl, rfl⟩
    go_wp2_with fail
    refine (HC.out _).mono ?_
    rintro e w3 ⟨rfl, rfl⟩
    cases bC
    · go_wp2_with fail
      go_ret
      exact ⟨rfl, xb⟩
    go_wp2_with fail
    refine (HF.out _ X0.bel).mono ?_
    rintro e w4 ⟨rfl, hb⟩
    have X4 := X0.step hb
    have xb4 := X4.bel
    obtain ⟨y0, y1, y2, y3, y4, y5, y6, y7, y8, y9, y10, y11, y12, y13, y14⟩ := fif X4.cb
    have yl := X4.lt
    cases bHF
    · go_wp2_with fail
      go_ret
      exact ⟨rfl, xb4⟩
    go_wp2_with fail
    refine (HU.out _ X4.bel).mono ?_
    rintro e w5 ⟨rfl, hb⟩
    have X5 := X4.step hb
    have xb5 := X5.bel
    go_wp2_with fail
    go_ret
    exact ⟨by simp, xb5⟩
  by_cases h7 : c.kind = 7
  · have hu : useB c = (filtB c.q.f) := by unfold useB; rw [if_neg (by omega), if_neg (by omega), if_neg (by omega), if_pos (by omega)]
    rw [hu]
    clear hu
    rw [h7] at X0 HK' ⊢
    obtain ⟨bHF, hHF⟩ : ∃ b, b = filtB c.q.f := ⟨_, rfl⟩
    rw [← hHF] at HF ⊢
    clear hHF
    clear hin h1 h2 h3 h4 h5 h8 h6 h7
    obtain ⟨x0, x1, x2, x3, x4, x5, x6, x7, x8, x9, x10, x11, x12, x13, x14⟩ := fif X0.cb
    have xl := X0.lt
    have xb := X0.bel
    go_enter Tryz.func14, Tryz.ntmps14
    go_wp2_with fail
    refine (HK'.out _).mono ?_
    rintro e w1 ⟨rfl, rfl⟩
    go_wp2_with fail
    refine (HS'.out _).mono ?_
    rintro e w2 ⟨rfl, rfl⟩
    go_wp2_with fail
    refine (HC.out _).mono ?_
    rintro e w3 ⟨rfl, rfl⟩
    cases bC
    · go_wp2_with fail
      go_ret
      exact ⟨rfl, xb⟩
    go_wp2_with fail
    refine (HF.out _ X0.bel).mono ?_
    rintro e w4 ⟨rfl, hb⟩
    have X4 := X0.step hb
    have xb4 := X4.bel
    go_wp2_with fail
    go_ret
    exact ⟨by simp, xb4⟩
  by_cases h9 : c.kind = 9
  · have hu : useB c = defB c.dn c.dp := by unfold useB; rw [if_neg (by omega), if_neg (by omega), if_neg (by omega), if_neg (by omega), if_pos h9]
    rw [hu]
    clear hu
    rw [h9] at X0 HK' ⊢
    clear hin h1 h2 h3 h4 h5 h6 h7 h8 h9
    cases hN : shortB c.dn
    · rw [hN] at HN
      rw [def_short _ _ hN, Bool.and_false]
      obtain ⟨x0, x1, x2, x3, x4, x5, x6, x7, x8, x9, x10, x11, x12, x13, x14⟩ := fif X0.cb
      have xl := X0.lt
      have xb := X0.bel
      go_enter Tryz.func14, Tryz.ntmps14
      go_wp2_with fail
      refine (HK'.out _).mono ?_
      rintro e w1 ⟨rfl, rfl⟩
      go_wp2_with fail
      refine (HS'.out _).mono ?_
      rintro e w2 ⟨rfl, rfl⟩
      go_wp2_with fail
      refine (HC.out _).mono ?_
      rintro e w3 ⟨rfl, rfl⟩
      cases bC
      · go_wp2_with fail
        go_ret
        exact ⟨rfl, xb⟩
      go_wp2_with fail
      refine (HN.out _).mono ?_
      rintro e w4 ⟨rfl, rfl⟩
      go_wp2_with fail
      go_ret
      exact ⟨rfl, xb⟩
    · rw [hN] at HN
      obtain ⟨bE, hE⟩ : ∃ b, b = defB c.dn c.dp := ⟨_, rfl⟩
      rw [← hE] at HE ⊢
      clear hE
      obtain ⟨x0, x1, x2, x3, x4, x5, x6, x7, x8, x9, x10, x11, x12, x13, x14⟩ := fif X0.cb
      have xl := X0.lt
      have xb := X0.bel
      go_enter Tryz.func14, Tryz.ntmps14
      go_wp2_with fail
      refine (HK'.out _).mono ?_
      rintro e w1 ⟨rfl, rfl⟩
      go_wp2_with fail
      refine (HS'.out _).mono ?_
      rintro e w2 ⟨rfl, rfl⟩
      go_wp2_with fail
      refine (HC.out _).mono ?_
      rintro e w3 ⟨rfl, rfl⟩
      cases bC
      · go_wp2_with fail
        go_ret
        exact ⟨rfl, xb⟩
      go_wp2_with fail
      refine (HN.out _).mono ?_
      rintro e w4 ⟨rfl, rfl⟩
      go_wp2_with fail
      refine (HE.out _ X0.bel).mono ?_
      rintro e w5 ⟨rfl, hb⟩
      have xb5 := (X0.step hb).bel
      clear hb
      go_wp2_with fail
      go_ret
      exact ⟨by simp, xb5⟩
  have h10 : c.kind = 10 := by omega
  have hu : useB c = shortB c.dn := by unfold useB; rw [if_neg (by omega), if_neg (by omega), if_neg (by omega), if_neg (by omega), if_neg (by omega), if_pos h10]
  rw [hu]
  clear hu
  rw [h10] at X0 HK' ⊢
  clear hin h1 h2 h3 h4 h5 h6 h7 h8 h9 h10
  obtain ⟨bN, hN⟩ : ∃ b, b = shortB c.dn := ⟨_, rfl⟩
  rw [← hN] at HN ⊢
  clear hN
  obtain ⟨x0, x1, x2, x3, x4, x5, x6, x7, x8, x9, x10, x11, x12, x13, x14⟩ := fif X0.cb
  have xl := X0.lt
  have xb := X0.bel
  go_enter Tryz.func14, Tryz.ntmps14
  go_wp2_with fail
  refine (HK'.out _).mono ?_
  rintro e w1 ⟨rfl, rfl⟩
  go_wp2_with fail
  refine (HS'.out _).mono ?_
  rintro e w2 ⟨rfl, rfl⟩
  go_wp2_with fail
  refine (HC.out _).mono ?_
  rintro e w3 ⟨rfl, rfl⟩
  cases bC
  · go_wp2_with fail
    go_ret
    exact ⟨rfl, xb⟩
  go_wp2_with fail
  refine (HN.out _).mono ?_
  rintro e w4 ⟨rfl, rfl⟩
  cases bN
  · go_wp2_with fail
    go_ret
    exact ⟨rfl, xb⟩
  go_wp2_with fail
  go_ret
  exact ⟨rfl, xb⟩

end Go.Proofs.YtbplmgmajmomcaaGreatDoor.Cm
