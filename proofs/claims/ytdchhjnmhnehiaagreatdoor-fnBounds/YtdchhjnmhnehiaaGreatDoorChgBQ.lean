/- What all that lies in some blocks alone changes; small facts. -/
import Derived.Test.YtdchhjnmhnehiaaGreatDoorTrMQ
import Derived.Test.YtdchhjnmhnehiaaGreatDoorSplitWQ
namespace Go.Proofs.YtdchhjnmhnehiaaGreatDoor.Tr
open Go.RowKit
set_option linter.unusedVariables false

theorem ret_bool' {a b : Bool} (h : a = b) : Ending.returned (.bool a) = .returned (.bool b) := by rw [h]
theorem addO (b off i : Nat) : (⟨b, off, none⟩ : Addr).add i = ⟨b, off + i, none⟩ := by unfold Addr.add; split <;> simp_all
/-- From w to w' all that lay in w is as it was, but in blocks from lo on, below hi. -/
structure Chg (lo hi : Nat) (w w' : World) : Prop where
  os : w'.os = w.os
  tape : w'.tape = w.tape
  output : w'.output = w.output
  size : w.heap.size ≤ w'.heap.size
  block : ∀ k, k < w.heap.size → (k < lo ∨ hi ≤ k) → w'.heap[k]? = w.heap[k]?
theorem Chg.refl (lo hi : Nat) (w : World) : Chg lo hi w w := ⟨rfl, rfl, rfl, Nat.le_refl _, fun _ _ _ => rfl⟩
theorem Chg.trans {lo hi : Nat} {a b c : World} (h : Chg lo hi a b) (k : Chg lo hi b c) : Chg lo hi a c :=
  ⟨k.os.trans h.os, k.tape.trans h.tape, k.output.trans h.output, Nat.le_trans h.size k.size, fun i hi ho => (k.block i (Nat.lt_of_lt_of_le hi h.size) ho).trans (h.block i hi ho)⟩
theorem Chg.of_below {lo hi : Nat} {w w' : World} (h : Below w.heap.size w w') : Chg lo hi w w' := ⟨h.os, h.tape, h.output, h.size, fun k hk _ => h.block k hk⟩
theorem Chg.of_grown {lo hi : Nat} {w w' : World} {row : Option Nat} (h : w.grownBy w' row) (hr : ∀ b, row = some b → lo ≤ b ∧ b < hi) : Chg lo hi w w' :=
  ⟨h.os, h.tape, h.output, h.size, fun k hk ho => h.block k hk (fun e => by have := hr k e.symm; omega)⟩
theorem Chg.below {lo hi B : Nat} {w w' : World} (h : Chg lo hi w w') (hB : B ≤ lo) (hs : B ≤ w.heap.size) : Below B w w' :=
  ⟨h.os, h.tape, h.output, h.size, fun k hk => h.block k (by omega) (.inl (by omega))⟩
theorem Chg.owns {lo hi : Nat} {w w' : World} (h : Chg lo hi w w') {base : Nat} {e : TypeId} {size : Nat} {v : Value} {n : Nat} {xs : List Value} (ho : w.ownsRow base e size v n xs) (hout : ∀ g, v.ownBlock = some g → g < lo ∨ hi ≤ g) : w'.ownsRow base e size v n xs := by
  have hlt := ho.lt
  obtain ⟨h1, h2⟩ := ho
  refine ⟨h1, ?_⟩
  rcases h2 with h2 | ⟨g, cap, cur, hv, hg, hh, r⟩
  · exact .inl h2
  · have hb : v.ownBlock = some g := by rw [hv]; rfl
    exact .inr ⟨g, cap, cur, hv, hg, by rw [h.block g (hlt g hb).2 (hout g hb)]; exact hh, r⟩
theorem Chg.cell {lo hi : Nat} {w w' : World} (h : Chg lo hi w w') {b o : Nat} (hb : b < w.heap.size) (ho : b < lo ∨ hi ≤ b) : w'.cell? ⟨b, o, none⟩ = w.cell? ⟨b, o, none⟩ := World.cell?_of_block (h.block b hb ho)

end Go.Proofs.YtdchhjnmhnehiaaGreatDoor.Tr

/- Whether a definition of an index is right: what the program and the specification answer. -/
namespace Go.Proofs.YtdchhjnmhnehiaaGreatDoor.Tr
open Go.RowKit
set_option linter.unusedVariables false

def okPt (p : Prt) : Bool := pathB p.path
def alikeP (s : ByteArray) (q : Prt) : Bool := q.path.toList == s.toList
/-- No path twice. -/
def diffB (pre : List Prt) : List Prt → Bool
  | [] => true
  | p :: t => !(pre.any (alikeP p.path)) && diffB (pre ++ [p]) t
theorem diffB_cons (pre : List Prt) (p : Prt) (t : List Prt) : diffB pre (p :: t) = (!(pre.any (alikeP p.path)) && diffB (pre ++ [p]) t) := rfl
theorem drop_consD (l : List Prt) (k : Nat) (h : k < l.length) : l.drop k = l[k] :: l.drop (k + 1) := by rw [List.drop_eq_getElem_cons h]
def defB (n : ByteArray) (l : List Prt) : Bool := shortB n && (decide (1 ≤ l.length ∧ l.length ≤ 2) && (l.all okPt && diffB [] l))
theorem ReadD.take {w : World} {g : Nat} {f : List Prt} (h : ReadD w g f) (k : Nat) : ReadD w g (f.take k) :=
  ⟨h.lt, fun i hi => by
    have h1 : i < f.length := by simp at hi; omega
    have := h.cells i h1
    simpa using this⟩

set_option maxRecDepth 4000 in
set_option maxHeartbeats 1000000 in
theorem isWrongPart_any (s : ByteArray) (d : Bool) (w : World) (hs : s.size ≤ 1048576) :
    Calls Tryz.prog 27 #[.agg #[.string s, .bool d]] w fun e w' => e = .returned (.bool (!(pathB s))) ∧ Below w.heap.size w w' := by
  have hb0 : Below w.heap.size w (w.alloc (.cells #[.string s, .bool d] 28)) := (Below.refl _ _).alloc (Nat.le_refl _) _
  have HC : Hid (∀ W : World, Calls _ _ _ W _) := fun W => pathOK_any s W hs
  go_enter Tryz.func27, Tryz.ntmps27
  go_wp2_with fail
  refine (HC.out _).mono ?_
  rintro e w1 ⟨rfl, hb⟩
  have hbw := hb0.trans (hb.mono hb0.size)
  clear hb
  go_wp2_with fail
  go_ret
  exact ⟨rfl, hbw⟩
set_option maxRecDepth 4000 in
set_option maxHeartbeats 1000000 in
theorem idxWrongD_any (q : Option Addr) (qc : Nat) (l : List Prt) (w : World) (hr : RowD w q l) (hl : l.length ≤ 1048576) (hs : ∀ v ∈ l, szPt v) :
    Calls Tryz.prog 92 #[.slice q l.length qc, .func (.func 27) #[] #[]] w fun e w' => (∃ i : Int, e = .returned (.int .i64 i) ∧ decide (0 ≤ i) = !(l.all okPt)) ∧ Below w.heap.size w w' := by
  have HR : Hid (RowD _ _ _) := hr
  have HS : Hid _ := hs
  clear hr hs
  go_enter Tryz.func92, Tryz.ntmps92
  go_wp2_with fail
  go_loopw [8] (fun i wr => ∃ k : Nat, k ≤ l.length ∧ i = .int .i64 k ∧ (∀ u ∈ l.take k, okPt u = true) ∧ Below w.heap.size w wr) (fun i _ => l.length - (intOf i).toNat)
  case atStart => exact ⟨0, Nat.zero_le _, rfl, fun u hu => by simp at hu, Below.refl _ _⟩
  case round =>
    obtain ⟨k, hk, rfl, hall, hbel⟩ := hrel
    have HA : Hid _ := hall
    clear hall
    by_cases hlt : k < l.length
    · rcases HR.out.next hbel with h0 | ⟨g, rfl, R⟩
      · subst h0; simp at hlt
      obtain ⟨x0, x1⟩ := R.cells k hlt
      have hlt2 : (k : Int) < (l.length : Int) := by omega
      have HK0 : ∀ W : World, Calls Tryz.prog 27 #[.agg #[.string l[k].path, .bool l[k].desc]] W fun e w' => e = .returned (.bool (!(okPt l[k]))) ∧ Below W.heap.size W w' := fun W => isWrongPart_any l[k].path l[k].desc W (HS.out l[k] (List.getElem_mem _))
      cases hP : okPt l[k]
      · rw [hP] at HK0
        have HK : Hid _ := HK0
        have hal : l.all okPt = false := by
          rw [Bool.eq_false_iff]; intro hh
          have := List.all_eq_true.mp hh l[k] (List.getElem_mem _)
          rw [hP] at this; cases this
        have HL : Hid _ := hal
        clear R hP HK0 hal
        go_wp2_with fail
        refine (HK.out _).mono ?_
        rintro e w1 ⟨rfl, hb⟩
        have hb1 := hbel.trans (hb.mono hbel.size)
        clear hb
        go_wp2_with fail
        go_ret
        exact ⟨⟨k, rfl, by rw [HL.out]; exact decide_eq_true (by omega)⟩, hb1⟩
      · rw [hP] at HK0
        have HK : Hid _ := HK0
        have HPK : Hid _ := hP
        clear R hP HK0
        go_wp2_with fail
        refine (HK.out _).mono ?_
        rintro e w1 ⟨rfl, hb⟩
        have hb1 := hbel.trans (hb.mono hbel.size)
        clear hb
        go_wp2_with fail
        go_roundw
        case rel =>
          refine ⟨k + 1, by omega, by go_num, ?_, hb1⟩
          intro u hu
          rw [List.take_succ_eq_append_getElem hlt] at hu
          rcases List.mem_append.mp hu with h | h
          · exact HA.out u h
          · simp at h; subst h; exact HPK.out
        case measure => simp [intOf]; omega
    · have hlt2 : ¬ (k : Int) < (l.length : Int) := by omega
      have hal : l.all okPt = true := List.all_eq_true.mpr fun u hu => HA.out u (by rw [List.take_of_length_le (by omega)]; exact hu)
      have HL : Hid _ := hal
      clear hal
      go_wp2_with fail
      go_ret
      exact ⟨⟨-1, rfl, by rw [HL.out]; rfl⟩, hbel⟩
set_option maxRecDepth 4000 in
set_option maxHeartbeats 1000000 in
theorem anyWrongD_any (q : Option Addr) (qc : Nat) (l : List Prt) (w : World) (hr : RowD w q l) (hl : l.length ≤ 1048576) (hs : ∀ v ∈ l, szPt v) :
    Calls Tryz.prog 64 #[.slice q l.length qc, .func (.func 27) #[] #[]] w fun e w' => e = .returned (.bool (!(l.all okPt))) ∧ Below w.heap.size w w' := by
  have HI : Hid (Calls _ _ _ _ _) := idxWrongD_any q qc l w hr hl hs
  clear hr hs
  go_enter Tryz.func64, Tryz.ntmps64
  go_wp2_with fail
  refine HI.out.mono ?_
  rintro e w1 ⟨⟨i, rfl, hi⟩, hb⟩
  have HJ : Hid _ := hi
  clear hi HI
  go_wp2_with fail
  go_ret
  exact ⟨ret_bool' HJ.out, hb⟩

set_option maxRecDepth 4000 in
set_option maxHeartbeats 1000000 in
theorem alikeD_any (s s2 : ByteArray) (d2 : Bool) (b : Nat) (w : World) (hc : w.cell? ⟨b, 0, none⟩ = some (.string s)) (hb : b < w.heap.size) :
    Calls Tryz.prog 93 #[.agg #[.string s2, .bool d2], .pointer (some ⟨b, 0, none⟩)] w fun e w' => e = .returned (.bool (s2.toList == s.toList)) ∧ Below w.heap.size w w' := by
  go_enter Tryz.func93, Tryz.ntmps93
  go_wp2_with fail
  go_ret
  exact ⟨rfl, by (repeat (first | (with_reducible exact Below.refl _ _) | (with_reducible assumption) | (with_reducible apply below_drewN) | (with_reducible apply Below.drew) | ((with_reducible refine Below.setCell ?_ ?_ _); rotate_left; focus (first | (simp; done) | (simp; omega) | omega)) | ((with_reducible refine Below.alloc ?_ ?_ _); rotate_left; focus (first | (simp; done) | (simp; omega) | omega))))⟩
set_option maxRecDepth 4000 in
set_option maxHeartbeats 1000000 in
theorem idxAlikeD_any (s : ByteArray) (b : Nat) (q : Option Addr) (qc : Nat) (l : List Prt) (w : World) (hc : w.cell? ⟨b, 0, none⟩ = some (.string s)) (hb : b < w.heap.size) (hr : RowD w q l) (hl : l.length ≤ 1048576) :
    Calls Tryz.prog 92 #[.slice q l.length qc, .func (.func 93) #[] #[.pointer (some ⟨b, 0, none⟩)]] w fun e w' => (∃ i : Int, e = .returned (.int .i64 i) ∧ decide (0 ≤ i) = l.any (alikeP s)) ∧ Below w.heap.size w w' := by
  have HR : Hid (RowD _ _ _) := hr
  clear hr
  obtain ⟨P, hP0⟩ : ∃ P : Prt → Bool, P = alikeP s := ⟨_, rfl⟩
  rw [← hP0]
  have HP0 : Hid _ := hP0
  clear hP0
  go_enter Tryz.func92, Tryz.ntmps92
  go_wp2_with fail
  go_loopw [8] (fun i wr => ∃ k : Nat, k ≤ l.length ∧ i = .int .i64 k ∧ (∀ u ∈ l.take k, P u = false) ∧ Below w.heap.size w wr) (fun i _ => l.length - (intOf i).toNat)
  case atStart => exact ⟨0, Nat.zero_le _, rfl, fun u hu => by simp at hu, Below.refl _ _⟩
  case round =>
    obtain ⟨k, hk, rfl, hall, hbel⟩ := hrel
    have HA : Hid _ := hall
    clear hall
    by_cases hlt : k < l.length
    · rcases HR.out.next hbel with h0 | ⟨g, rfl, R⟩
      · subst h0; simp at hlt
      obtain ⟨x0, x1⟩ := R.cells k hlt
      have hlt2 : (k : Int) < (l.length : Int) := by omega
      have HK0 := alikeD_any s l[k].path l[k].desc b wr ((hbel.cell hb).trans hc) (Nat.lt_of_lt_of_le hb hbel.size)
      have hPk : P l[k] = (l[k].path.toList == s.toList) := by rw [HP0.out]; rfl
      rw [← hPk] at HK0
      cases hP : P l[k]
      · rw [hP] at HK0
        have HK : Hid (Calls _ _ _ _ _) := HK0
        have HPK : Hid _ := hP
        clear R hP HK0 hPk
        go_wp2_with fail
        refine HK.out.mono ?_
        rintro e w1 ⟨rfl, hb1⟩
        have hb2 := hbel.trans (hb1.mono hbel.size)
        clear hb1 HK
        go_wp2_with fail
        go_roundw
        case rel =>
          refine ⟨k + 1, by omega, by go_num, ?_, hb2⟩
          intro u hu
          rw [List.take_succ_eq_append_getElem hlt] at hu
          rcases List.mem_append.mp hu with h | h
          · exact HA.out u h
          · simp at h; subst h; exact HPK.out
        case measure => simp [intOf]; omega
      · rw [hP] at HK0
        have HK : Hid (Calls _ _ _ _ _) := HK0
        have hal : l.any P = true := List.any_eq_true.mpr ⟨l[k], List.getElem_mem _, hP⟩
        have HL : Hid _ := hal
        clear R hP HK0 hal hPk
        go_wp2_with fail
        refine HK.out.mono ?_
        rintro e w1 ⟨rfl, hb1⟩
        have hb2 := hbel.trans (hb1.mono hbel.size)
        clear hb1 HK
        go_wp2_with fail
        go_ret
        exact ⟨⟨k, rfl, by rw [HL.out]; exact decide_eq_true (by omega)⟩, hb2⟩
    · have hlt2 : ¬ (k : Int) < (l.length : Int) := by omega
      have hal : l.any P = false := by
        rw [Bool.eq_false_iff]; intro hh
        obtain ⟨u, hu, he⟩ := List.any_eq_true.mp hh
        have := HA.out u (by rw [List.take_of_length_le (by omega)]; exact hu)
        rw [this] at he; cases he
      have HL : Hid _ := hal
      clear hal
      go_wp2_with fail
      go_ret
      exact ⟨⟨-1, rfl, by rw [HL.out]; rfl⟩, hbel⟩
set_option maxRecDepth 4000 in
set_option maxHeartbeats 1000000 in
theorem conAlikeD_any (s : ByteArray) (b : Nat) (q : Option Addr) (qc : Nat) (l : List Prt) (w : World) (hc : w.cell? ⟨b, 0, none⟩ = some (.string s)) (hb : b < w.heap.size) (hr : RowD w q l) (hl : l.length ≤ 1048576) :
    Calls Tryz.prog 64 #[.slice q l.length qc, .func (.func 93) #[] #[.pointer (some ⟨b, 0, none⟩)]] w fun e w' => e = .returned (.bool (l.any (alikeP s))) ∧ Below w.heap.size w w' := by
  have HC : Hid (Calls _ _ _ _ _) := idxAlikeD_any s b q qc l w hc hb hr hl
  clear hr hc
  go_enter Tryz.func64, Tryz.ntmps64
  go_wp2_with fail
  refine HC.out.mono ?_
  rintro e w1 ⟨⟨i, rfl, hi⟩, hb⟩
  go_wp2_with fail
  go_ret
  rw [← hi]
  exact ⟨rfl, hb⟩
set_option maxRecDepth 4000 in
set_option maxHeartbeats 1000000 in
theorem pathsDiffer_any (p : Option Addr) (cap : Nat) (f : List Prt) (w : World) (hr : RowD w p f) (hl : f.length ≤ 1048576) (hcap : f.length ≤ cap) :
    Calls Tryz.prog 65 #[.slice p f.length cap] w fun e w' => e = .returned (.bool (diffB [] f)) ∧ Below w.heap.size w w' := by
  have HR : Hid (RowD _ _ _) := hr
  clear hr
  obtain ⟨R, hR⟩ : ∃ R, R = diffB [] f := ⟨_, rfl⟩
  rw [← hR]
  have HRR : Hid _ := hR
  clear hR
  go_enter Tryz.func65, Tryz.ntmps65
  go_wp2_with fail
  go_loopw [8] (fun i wr => ∃ k : Nat, k ≤ f.length ∧ i = .int .i64 k ∧ R = diffB (f.take k) (f.drop k) ∧ Below w.heap.size w wr) (fun i _ => f.length - (intOf i).toNat)
  case atStart => exact ⟨0, Nat.zero_le _, rfl, HRR.out, Below.refl _ _⟩
  case round =>
    obtain ⟨k, hk, rfl, hall, hbel⟩ := hrel
    have HA : Hid _ := hall
    clear hall
    by_cases hlt : k < f.length
    · rcases HR.out.next hbel with h0 | ⟨g, rfl, R1⟩
      · subst h0; simp at hlt
      obtain ⟨x0, x1⟩ := R1.cells k hlt
      have hlt2 : (k : Int) < (f.length : Int) := by omega
      have hk3 : (k : Int) ≤ (cap : Int) := by omega
      have hz := hbel.size
      have R2 : RowD wr (some ⟨g, 0, none⟩) (f.take k) := .inr ⟨g, rfl, R1.take k⟩
      have hlen : (f.take k).length = k := by simp; omega
      have hb0 : Below wr.heap.size wr (wr.alloc (.cells #[.string f[k].path, .bool f[k].desc] 28)) := (Below.refl _ _).alloc (Nat.le_refl _) _
      have HC0 := conAlikeD_any f[k].path wr.heap.size (some ⟨g, 0, none⟩) cap (f.take k) (wr.alloc (.cells #[.string f[k].path, .bool f[k].desc] 28)) (by simp [go_sem]) (by simp) (R2.next hb0) (by omega)
      rw [hlen] at HC0
      have hbA := hbel.trans (hb0.mono hbel.size)
      have hcons : R = (!((f.take k).any (alikeP f[k].path)) && diffB (f.take (k + 1)) (f.drop (k + 1))) := HA.out.trans (by rw [drop_consD f k hlt, diffB_cons, List.take_succ_eq_append_getElem hlt])
      clear R1 R2 hlen
      cases hP : (f.take k).any (alikeP f[k].path)
      · rw [hP] at HC0 hcons
        rw [Bool.not_false, Bool.true_and] at hcons
        have HC : Hid (Calls _ _ _ _ _) := HC0
        have HN : Hid (R = _) := hcons
        clear hP HC0 hcons
        go_wp2_with fail
        refine HC.out.mono ?_
        rintro e w1 ⟨rfl, hb1⟩
        have hb2 := hbA.trans (hb1.mono hbA.size)
        clear hb1 HC
        go_wp2_with fail
        go_roundw
        case rel => exact ⟨k + 1, by omega, by go_num, HN.out, hb2⟩
        case measure => simp [intOf]; omega
      · rw [hP] at HC0 hcons
        have HC : Hid (Calls _ _ _ _ _) := HC0
        have hRf : R = false := by rw [hcons]; rfl
        have HN : Hid (R = false) := hRf
        clear hP HC0 hcons hRf
        go_wp2_with fail
        refine HC.out.mono ?_
        rintro e w1 ⟨rfl, hb1⟩
        have hb2 := hbA.trans (hb1.mono hbA.size)
        clear hb1 HC
        go_wp2_with fail
        go_ret
        exact ⟨ret_bool' HN.out.symm, hb2⟩
    · have hlt2 : ¬ (k : Int) < (f.length : Int) := by omega
      have hRt : R = true := by rw [HA.out, List.drop_eq_nil_of_le (by omega)]; rfl
      have HN : Hid (R = true) := hRt
      clear hRt
      go_wp2_with fail
      go_ret
      exact ⟨ret_bool' HN.out.symm, hbel⟩

/-- A box of a definition: two cells. -/
structure BoxD (w W : World) (n : ByteArray) (v : Value) : Prop where
  bel : Below w.heap.size w W
  lt : w.heap.size < W.heap.size
  c0 : W.cell? ⟨w.heap.size, 0, none⟩ = some (.string n)
  c1 : W.cell? ⟨w.heap.size, 1, none⟩ = some v
theorem BoxD.start (w : World) (n : ByteArray) (v : Value) (T : TypeId) : BoxD w (w.alloc (.cells #[.string n, v] T)) n v :=
  ⟨(Below.refl _ _).alloc (Nat.le_refl _) _, by simp, by simp [go_sem], by simp [go_sem]⟩
theorem BoxD.step {w W W' : World} {n : ByteArray} {v : Value} (h : BoxD w W n v) (hb : Below W.heap.size W W') : BoxD w W' n v :=
  ⟨h.bel.trans (hb.mono h.bel.size), Nat.lt_of_lt_of_le h.lt hb.size, (hb.cell h.lt).trans h.c0, (hb.cell h.lt).trans h.c1⟩

set_option maxRecDepth 4000 in
set_option maxHeartbeats 1000000 in
theorem defOK_any (n : ByteArray) (p : Option Addr) (cap : Nat) (l : List Prt) (w : World) (hr : RowD w p l) (hn : n.size ≤ 1048576) (hl : l.length ≤ 1048576) (hcap : l.length ≤ cap) (hs : ∀ v ∈ l, szPt v) :
    Calls Tryz.prog 35 #[.agg #[.string n, .slice p l.length cap]] w fun e w' => e = .returned (.bool (defB n l)) ∧ Below w.heap.size w w' := by
  have X0 := BoxD.start w n (.slice p l.length cap) 31
  have HN : Hid (∀ W : World, Calls _ _ _ W _) := fun W => shortNameOK_any n W (by unfold maxLen; omega)
  have HW : Hid (∀ W : World, Below w.heap.size w W → Calls _ _ _ W _) := fun W hW => anyWrongD_any p cap l W (hr.next hW) hl hs
  have HD : Hid (∀ W : World, Below w.heap.size w W → Calls _ _ _ W _) := fun W hW => pathsDiffer_any p cap l W (hr.next hW) hl hcap
  obtain ⟨R, hR⟩ : ∃ R, R = defB n l := ⟨_, rfl⟩
  rw [← hR]
  unfold defB at hR
  cases hS : shortB n
  · rw [hS] at HN hR
    rw [Bool.false_and] at hR
    subst hR
    clear hr hs hS
    go_enter Tryz.func35, Tryz.ntmps35
    go_wp2_with fail
    refine (HN.out _).mono ?_
    rintro e w1 ⟨rfl, rfl⟩
    have hbw := X0.bel
    go_wp2_with fail
    go_ret
    exact ⟨rfl, hbw⟩
  · rw [hS] at HN hR
    rw [Bool.true_and] at hR
    by_cases h12 : 1 ≤ l.length ∧ l.length ≤ 2
    · rw [decide_eq_true h12, Bool.true_and] at hR
      have a1 : ¬ (l.length : Int) < 1 := by omega
      have a2 : ¬ (2 : Int) < (l.length : Int) := by omega
      cases hA : l.all okPt
      · rw [hA] at HW hR
        rw [Bool.false_and] at hR
        subst hR
        clear hr hs hS hA h12
        go_enter Tryz.func35, Tryz.ntmps35
        go_wp2_with fail
        refine (HN.out _).mono ?_
        rintro e w1 ⟨rfl, rfl⟩
        go_wp2_with fail
        refine (HW.out _ X0.bel).mono ?_
        rintro e w2 ⟨rfl, hb⟩
        have hbw := (X0.step hb).bel
        clear hb
        go_wp2_with fail
        go_ret
        exact ⟨rfl, hbw⟩
      · rw [hA] at HW hR
        rw [Bool.true_and] at hR
        rw [← hR] at HD
        clear hr hs hS hA h12 hR
        go_enter Tryz.func35, Tryz.ntmps35
        go_wp2_with fail
        refine (HN.out _).mono ?_
        rintro e w1 ⟨rfl, rfl⟩
        go_wp2_with fail
        refine (HW.out _ X0.bel).mono ?_
        rintro e w2 ⟨rfl, hb⟩
        have X2 := X0.step hb
        have c1 := X2.c1
        clear hb
        go_wp2_with fail
        refine (HD.out _ X2.bel).mono ?_
        rintro e w3 ⟨rfl, hb⟩
        have hbw := (X2.step hb).bel
        clear hb
        go_wp2_with fail
        go_ret
        exact ⟨rfl, hbw⟩
    · rw [decide_eq_false h12, Bool.false_and] at hR
      subst hR
      clear hr hs hS
      have hbw := X0.bel
      by_cases h1 : l.length < 1
      · have a1 : (l.length : Int) < 1 := by omega
        clear h12 h1
        go_enter Tryz.func35, Tryz.ntmps35
        go_wp2_with fail
        refine (HN.out _).mono ?_
        rintro e w1 ⟨rfl, rfl⟩
        go_wp2_with fail
        go_ret
        exact ⟨rfl, hbw⟩
      · have a1 : ¬ (l.length : Int) < 1 := by omega
        have a2 : (2 : Int) < (l.length : Int) := by omega
        clear h12 h1
        go_enter Tryz.func35, Tryz.ntmps35
        go_wp2_with fail
        refine (HN.out _).mono ?_
        rintro e w1 ⟨rfl, rfl⟩
        go_wp2_with fail
        go_ret
        exact ⟨rfl, hbw⟩

end Go.Proofs.YtdchhjnmhnehiaaGreatDoor.Tr

/- Rows of entries: what the laws' own helpers on them answer. -/
namespace Go.Proofs.YtdchhjnmhnehiaaGreatDoor.Tr
open Go.RowKit
set_option linter.unusedVariables false

def ze : Ent := ⟨em, 0⟩
def rowE (t : Ent) : List Value := [.string t.key, .int .i64 t.id]
def flatE (l : List Ent) : List Value := l.flatMap rowE
theorem flatE_snoc (l : List Ent) (f : Ent) : flatE (l ++ [f]) = flatE l ++ rowE f := by unfold flatE; simp
theorem flatE_app (a b : List Ent) : flatE (a ++ b) = flatE a ++ flatE b := by unfold flatE; simp
theorem flatE_cons (v : Ent) (l : List Ent) : flatE (v :: l) = .string v.key :: .int .i64 v.id :: flatE l := rfl
theorem flatE_len (l : List Ent) : (flatE l).length = l.length * 2 := by
  induction l with
  | nil => rfl
  | cons v l ih => rw [flatE_cons]; simp [ih]; omega
theorem flatE_get : ∀ (l : List Ent) (i : Nat) (h : i < l.length), (flatE l)[i * 2]? = some (.string l[i].key) ∧ (flatE l)[i * 2 + 1]? = some (.int .i64 l[i].id)
  | v :: l, 0, _ => ⟨rfl, rfl⟩
  | v :: l, i + 1, h => by
    have ih := flatE_get l i (by simpa using h)
    have e : flatE (v :: l) = rowE v ++ flatE l := by unfold flatE; simp
    rw [e, show (i + 1) * 2 = i * 2 + 2 by omega]
    have hl : (rowE v).length = 2 := rfl
    refine ⟨?_, ?_⟩
    · rw [List.getElem?_append_right (by omega), hl]; simpa using ih.1
    · rw [List.getElem?_append_right (by omega), hl, show i * 2 + 2 + 1 - 2 = i * 2 + 1 by omega]; simpa using ih.2
theorem flatE_set : ∀ (l : List Ent) (k : Nat) (v : Ent), k < l.length → ((flatE l).set (k * 2) (.string v.key)).set (k * 2 + 1) (.int .i64 v.id) = flatE (l.set k v)
  | [], k, v, h => by simp at h
  | u :: l, 0, v, _ => rfl
  | u :: l, k + 1, v, h => by
    rw [List.set_cons_succ, flatE_cons, flatE_cons, ← flatE_set l k v (by simpa using h)]
    rw [show (k + 1) * 2 = k * 2 + 1 + 1 by omega]
    rfl
/-- A row of entries that stands at a block's head. -/
structure ReadE (w : World) (g : Nat) (l : List Ent) : Prop where
  lt : g < w.heap.size
  cells : ∀ i (h : i < l.length), w.cell? ⟨g, i * 2, none⟩ = some (.string l[i].key) ∧ w.cell? ⟨g, i * 2 + 1, none⟩ = some (.int .i64 l[i].id)
theorem ReadE.step {w w' : World} {g base : Nat} {l : List Ent} (h : ReadE w g l) (hb : Below base w w') (hg : g < base) : ReadE w' g l :=
  ⟨Nat.lt_of_lt_of_le h.lt hb.size, fun i hi => ⟨(hb.cell hg).trans (h.cells i hi).1, (hb.cell hg).trans (h.cells i hi).2⟩⟩
theorem ReadE.next {w w' : World} {g : Nat} {l : List Ent} (h : ReadE w g l) (hb : Below w.heap.size w w') : ReadE w' g l := h.step hb h.lt
theorem ReadE.grown {w w' : World} {g : Nat} {l : List Ent} {row : Option Nat} (h : ReadE w g l) (hg : w.grownBy w' row) (hne : some g ≠ row) : ReadE w' g l :=
  ⟨Nat.lt_of_lt_of_le h.lt hg.size, fun i hi => ⟨(World.cell?_of_block (hg.block g h.lt hne)).trans (h.cells i hi).1, (World.cell?_of_block (hg.block g h.lt hne)).trans (h.cells i hi).2⟩⟩
/-- A row of entries, a nil one too. -/
def RowE (w : World) (p : Option Addr) (l : List Ent) : Prop := l = [] ∨ ∃ g, p = some ⟨g, 0, none⟩ ∧ ReadE w g l
theorem RowE.next {w w' : World} {p : Option Addr} {l : List Ent} (h : RowE w p l) (hb : Below w.heap.size w w') : RowE w' p l := by
  rcases h with h | ⟨g, hp, hr⟩
  · exact .inl h
  · exact .inr ⟨g, hp, hr.next hb⟩
/-- Entries that came in. -/
def InE (w : World) (a : Option Addr) (l : List Ent) : Prop := l.length = 0 ∨ ∃ b off, a = some ⟨b, off, none⟩ ∧ b < w.heap.size ∧ ∀ i (h : i < l.length), w.cell? ⟨b, off + i * 2, none⟩ = some (.string l[i].key) ∧ w.cell? ⟨b, off + i * 2 + 1, none⟩ = some (.int .i64 l[i].id)
theorem InE.step {w w' : World} {a : Option Addr} {l : List Ent} (h : InE w a l) (hb : Below w.heap.size w w') : InE w' a l := by
  rcases h with h | ⟨b, off, ha, hlt, hc⟩
  · exact .inl h
  · exact .inr ⟨b, off, ha, Nat.lt_of_lt_of_le hlt hb.size, fun i hi => ⟨(hb.cell hlt).trans (hc i hi).1, (hb.cell hlt).trans (hc i hi).2⟩⟩
theorem ReadE.inE {w : World} {g : Nat} {l : List Ent} (h : ReadE w g l) : InE w (some ⟨g, 0, none⟩) l :=
  .inr ⟨g, 0, rfl, h.lt, fun i hi => by rw [Nat.zero_add]; exact h.cells i hi⟩
theorem InE.grown {w w' : World} {a : Option Addr} {l : List Ent} {row : Option Nat} (h : InE w a l) (hg : w.grownBy w' row) (hne : ∀ b off, a = some ⟨b, off, none⟩ → some b ≠ row) : InE w' a l := by
  rcases h with h | ⟨b, off, ha, hlt, hc⟩
  · exact .inl h
  · have hb := hg.block b hlt (hne b off ha)
    exact .inr ⟨b, off, ha, Nat.lt_of_lt_of_le hlt hg.size, fun i hi => ⟨(World.cell?_of_block hb).trans (hc i hi).1, (World.cell?_of_block hb).trans (hc i hi).2⟩⟩
/-- The first k entries, and zero ones behind them. -/
def mixE (l : List Ent) (k : Nat) : List Ent := l.take k ++ List.replicate (l.length - k) ze
theorem mixE_len (l : List Ent) (k : Nat) (h : k ≤ l.length) : (mixE l k).length = l.length := by unfold mixE; simp; omega
theorem mixE_full (l : List Ent) (k : Nat) (h : l.length ≤ k) : mixE l k = l := by
  unfold mixE; rw [List.take_of_length_le h, Nat.sub_eq_zero_of_le h]; simp
theorem mixE_set (l : List Ent) (k : Nat) (h : k < l.length) : (mixE l k).set k l[k] = mixE l (k + 1) := by
  unfold mixE
  have hl : (l.take k).length = k := by simp; omega
  rw [List.take_succ_eq_append_getElem h, List.append_assoc, List.set_append_right _ _ (by omega)]
  congr 1
  rw [hl, Nat.sub_self]
  obtain ⟨m, hm⟩ : ∃ m, l.length - k = m + 1 := ⟨l.length - k - 1, by omega⟩
  rw [hm, List.replicate_succ, show l.length - (k + 1) = m by omega]
  rfl
theorem made_zeroE (n : Nat) : (madeCells (Value.agg #[.string em, .int .i64 0]).cells (n * 2)).toList = flatE (List.replicate n ze) := by
  apply List.ext_getElem?
  intro j
  by_cases hj : j < n * 2
  · have hg := flatE_get (List.replicate n ze) (j / 2) (by simp; omega)
    simp only [List.getElem_replicate] at hg
    have hc : (Value.agg #[.string em, .int .i64 0]).cells = #[.string em, .int .i64 0] := by rfl
    rw [hc]
    have h3 : j % 2 = 0 ∨ j % 2 = 1 := by omega
    rcases h3 with h3 | h3
    · have e : j = j / 2 * 2 := by omega
      rw [show (flatE (List.replicate n ze))[j]? = (flatE (List.replicate n ze))[j / 2 * 2]? by rw [← e], hg.1]
      simp [madeCells, hj, h3, ze]
    · have e : j = j / 2 * 2 + 1 := by omega
      rw [show (flatE (List.replicate n ze))[j]? = (flatE (List.replicate n ze))[j / 2 * 2 + 1]? by rw [← e], hg.2]
      simp [madeCells, hj, h3, ze]
  · rw [List.getElem?_eq_none (by simp [madeCells]; omega), List.getElem?_eq_none (by rw [flatE_len]; simp; omega)]

def szE (t : Ent) : Prop := t.key.size ≤ 1048576
def maxE (t : Ent) : Prop := t.key.size ≤ maxLen
theorem take_allE (p : Ent → Prop) (l : List Ent) (k : Nat) (h : k < l.length) (h1 : ∀ v ∈ l.take k, p v) (h2 : p l[k]) : ∀ v ∈ l.take (k + 1), p v := by
  intro v hv
  rw [List.take_succ_eq_append_getElem h] at hv
  rcases List.mem_append.mp hv with hv | hv
  · exact h1 v hv
  · rw [List.mem_singleton.mp hv]; exact h2

end Go.Proofs.YtdchhjnmhnehiaaGreatDoor.Tr

/- Rows of pages, and trees: what the laws' own helpers on them answer. -/
namespace Go.Proofs.YtdchhjnmhnehiaaGreatDoor.Tr
open Go.RowKit
set_option linter.unusedVariables false

/-- A row of pages that stands at a block's head. -/
structure ReadP (w : World) (g : Nat) (f : List Pg) : Prop where
  lt : g < w.heap.size
  cells : ∀ i (h : i < f.length), w.cell? ⟨g, i * 2, none⟩ = some (.int .i64 f[i].num) ∧ ∃ p cap, w.cell? ⟨g, i * 2 + 1, none⟩ = some (.slice p f[i].es.length cap) ∧ InE w p f[i].es
theorem ReadP.next {w w' : World} {g : Nat} {f : List Pg} (h : ReadP w g f) (hb : Below w.heap.size w w') : ReadP w' g f :=
  ⟨Nat.lt_of_lt_of_le h.lt hb.size, fun i hi => by
    obtain ⟨h0, p, cap, hc, hr⟩ := h.cells i hi
    exact ⟨(hb.cell h.lt).trans h0, p, cap, (hb.cell h.lt).trans hc, hr.step hb⟩⟩
/-- A row of pages, a nil one too. -/
def RowP (w : World) (p : Option Addr) (f : List Pg) : Prop := f = [] ∨ ∃ g, p = some ⟨g, 0, none⟩ ∧ ReadP w g f
theorem RowP.next {w w' : World} {p : Option Addr} {f : List Pg} (h : RowP w p f) (hb : Below w.heap.size w w') : RowP w' p f := by
  rcases h with h | ⟨g, hp, hr⟩
  · exact .inl h
  · exact .inr ⟨g, hp, hr.next hb⟩
/-- Pages that came in. -/
def InP (w : World) (a : Option Addr) (f : List Pg) : Prop := f.length = 0 ∨ ∃ b off, a = some ⟨b, off, none⟩ ∧ b < w.heap.size ∧ ∀ i (h : i < f.length), w.cell? ⟨b, off + i * 2, none⟩ = some (.int .i64 f[i].num) ∧ ∃ p cap, w.cell? ⟨b, off + i * 2 + 1, none⟩ = some (.slice p f[i].es.length cap) ∧ InE w p f[i].es
theorem InP.step {w w' : World} {a : Option Addr} {f : List Pg} (h : InP w a f) (hb : Below w.heap.size w w') : InP w' a f := by
  rcases h with h | ⟨b, off, ha, hlt, hc⟩
  · exact .inl h
  · exact .inr ⟨b, off, ha, Nat.lt_of_lt_of_le hlt hb.size, fun i hi => by
      obtain ⟨h0, p, cap, h1, h2⟩ := hc i hi
      exact ⟨(hb.cell hlt).trans h0, p, cap, (hb.cell hlt).trans h1, h2.step hb⟩⟩
def szP (p : Pg) : Prop := p.es.length ≤ 1048576 ∧ ∀ v ∈ p.es, szE v
def maxP (p : Pg) : Prop := p.es.length ≤ maxLen ∧ ∀ v ∈ p.es, maxE v
theorem take_allP (p : Pg → Prop) (l : List Pg) (k : Nat) (h : k < l.length) (h1 : ∀ v ∈ l.take k, p v) (h2 : p l[k]) : ∀ v ∈ l.take (k + 1), p v := by
  intro v hv
  rw [List.take_succ_eq_append_getElem h] at hv
  rcases List.mem_append.mp hv with hv | hv
  · exact h1 v hv
  · rw [List.mem_singleton.mp hv]; exact h2

end Go.Proofs.YtdchhjnmhnehiaaGreatDoor.Tr

/- Trees made out of the laws' own, and trees held against each other: what the laws' helpers answer. -/
namespace Go.Proofs.YtdchhjnmhnehiaaGreatDoor.Tr
open Go.RowKit
set_option linter.unusedVariables false

end Go.Proofs.YtdchhjnmhnehiaaGreatDoor.Tr

/- Marks on rows of entries: what the laws' helpers answer, and which memory they change. -/
namespace Go.Proofs.YtdchhjnmhnehiaaGreatDoor.Tr
open Go.RowKit
set_option linter.unusedVariables false

theorem grown_below {w w' : World} {row : Option Nat} (h : Below w.heap.size w w') : w.grownBy w' row := ⟨h.os, h.tape, h.output, h.size, fun k hk _ => h.block k hk⟩
theorem grown_trans {a b c : World} {row : Option Nat} (h : a.grownBy b row) (k : b.grownBy c row) : a.grownBy c row :=
  ⟨k.os.trans h.os, k.tape.trans h.tape, k.output.trans h.output, Nat.le_trans h.size k.size, fun i hi hne => (k.block i (Nat.lt_of_lt_of_le hi h.size) hne).trans (h.block i hi hne)⟩
theorem grown_refl (a : World) (row : Option Nat) : a.grownBy a row := ⟨rfl, rfl, rfl, Nat.le_refl _, fun _ _ _ => rfl⟩

def txt (zs : List Int) : ByteArray := strOfNums zs
theorem txt_size (z : Int) : (txt [z]).size = 1 := by rfl
/-- The digits of a number ahead of a text. -/
def digs (k : Nat) (out : ByteArray) : ByteArray := if h : k = 0 then out else digs (k / 10) (txt [48 + (k : Int) % 10] ++ out)
  termination_by k
  decreasing_by omega
theorem digs_zero (out : ByteArray) : digs 0 out = out := by rw [digs]; simp
theorem digs_pos (k : Nat) (out : ByteArray) (h : 0 < k) : digs k out = digs (k / 10) (txt [48 + (k : Int) % 10] ++ out) := by
  rw [digs, dif_neg (by omega)]
/-- The text of a mark. -/
def mt (k : Nat) : ByteArray := (⟨#[109]⟩ : ByteArray) ++ digs k em
theorem conv1 (W : World) (z : Int) : (convert 22 9 (.slice (some ⟨W.heap.size, 0, none⟩) 1 1)).run Tryz.prog (W.alloc (.cells #[.int .u8 z] 5)) = .ok (.string (txt [z])) (W.alloc (.cells #[.int .u8 z] 5)) :=
  run_convert_bytes_arg _ 22 5 Tryz.underlying22 Tryz.underlying5 W.heap.size 0 1 1 [z] rfl (fun i hi => by
    have : i = 0 := by omega
    subst this
    simp [go_sem]) 9 Tryz.underlying9
set_option maxRecDepth 4000 in
set_option maxHeartbeats 1000000 in
theorem markText_any (k : Nat) (h1 : 1 ≤ k) (h2 : k ≤ 17592186044416) (w : World) :
    Calls Tryz.prog 44 #[.int .i64 k] w fun e w' => e = .returned (.string (mt k)) ∧ Below w.heap.size w w' := by
  have hp : ¬ ((k : Int) ≤ 0) := by omega
  go_enter Tryz.func44, Tryz.ntmps44
  go_wp2_with fail
  go_loopw [0, 3] (fun i u wr => ∃ (j : Nat) (out : ByteArray), i = .int .i64 j ∧ u = .string out ∧ digs j out = digs k em ∧ out.size + j ≤ k ∧ Below w.heap.size w wr) (fun i _ _ => (intOf i).toNat)
  case atStart => exact ⟨k, em, rfl, rfl, rfl, by simp [ByteArray.size], Below.refl _ _⟩
  case round =>
    obtain ⟨j, out, rfl, rfl, hd, hsz, hbel⟩ := hrel
    have HD : Hid _ := hd
    clear hd
    have hz := hbel.size
    by_cases hj : 0 < j
    · have hj' : (0 : Int) < (j : Int) := by omega
      have ht : (txt [48 + (j : Int) % 10]).size = 1 := txt_size _
      have hc := conv1 wr (48 + (j : Int) % 10)
      have hm : Int.tmod (j : Int) 10 = (j : Int) % 10 := Int.tmod_eq_emod_of_nonneg (by omega)
      have hq : Int.tdiv (j : Int) 10 = (j : Int) / 10 := Int.tdiv_eq_ediv_of_nonneg (by omega)
      go_wp2_with fail
      go_roundw
      case rel => exact ⟨j / 10, txt [48 + (j : Int) % 10] ++ out, by go_num, rfl, by rw [← digs_pos j out hj]; exact HD.out, by rw [ByteArray.size_append, ht]; omega, by (repeat (first | (with_reducible exact Below.refl _ _) | (with_reducible assumption) | (with_reducible apply below_drewN) | (with_reducible apply Below.drew) | ((with_reducible refine Below.setCell ?_ ?_ _); rotate_left; focus (first | (simp; done) | (simp; omega) | omega)) | ((with_reducible refine Below.alloc ?_ ?_ _); rotate_left; focus (first | (simp; done) | (simp; omega) | omega))))⟩
      case measure => simp [intOf]; omega
    · have hj0 : j = 0 := by omega
      subst hj0
      have e : out = digs k em := by rw [← HD.out, digs_zero]
      subst e
      clear HD
      go_wp2_with fail
      go_ret
      exact ⟨rfl, hbel⟩

/-- The entry that marks place number i, from number q on. -/
def markE (q i : Nat) : Ent := ⟨mt (q + 2 * i), (q : Int) + 2 * (i : Int) + 1⟩
def marksE (q n : Nat) : List Ent := (List.range n).map (markE q)
theorem marksE_len (q n : Nat) : (marksE q n).length = n := by unfold marksE; simp
theorem marksE_get (q n i : Nat) (h : i < (marksE q n).length) : (marksE q n)[i] = markE q i := by simp [marksE]
/-- The first k places marked. -/
def markMixE (q : Nat) (l : List Ent) (k : Nat) : List Ent := marksE q k ++ l.drop k
theorem markMixE_len (q : Nat) (l : List Ent) (k : Nat) (h : k ≤ l.length) : (markMixE q l k).length = l.length := by unfold markMixE; rw [List.length_append, marksE_len, List.length_drop]; omega
theorem markMixE_zero (q : Nat) (l : List Ent) : markMixE q l 0 = l := by unfold markMixE marksE; simp
theorem markMixE_full (q : Nat) (l : List Ent) : markMixE q l l.length = marksE q l.length := by unfold markMixE; simp
theorem markMixE_set (q : Nat) (l : List Ent) (k : Nat) (h : k < l.length) : (markMixE q l k).set k (markE q k) = markMixE q l (k + 1) := by
  unfold markMixE
  rw [List.set_append_right _ _ (by rw [marksE_len]; omega), marksE_len, Nat.sub_self]
  have e : marksE q (k + 1) = marksE q k ++ [markE q k] := by unfold marksE; rw [List.range_succ, List.map_append]; rfl
  rw [e, List.append_assoc]
  congr 1
  rw [List.drop_eq_getElem_cons h]; rfl

end Go.Proofs.YtdchhjnmhnehiaaGreatDoor.Tr

/- Rows of texts of an answer's own: what the laws' marks on them answer. -/
namespace Go.Proofs.YtdchhjnmhnehiaaGreatDoor.Tr
open Go.RowKit
set_option linter.unusedVariables false

theorem infoStr : (Tryz.prog.info? 9).map (fun i => (i.zero, i.size, i.bytes)) = some (some (.string em), 1, 16) := by kernel_rfl
def strV (l : List ByteArray) : List Value := l.map Value.string
theorem strV_len (l : List ByteArray) : (strV l).length = l.length := by unfold strV; simp
theorem strV_get (l : List ByteArray) (i : Nat) (h : i < l.length) : (strV l)[i]? = some (.string l[i]) := by unfold strV; rw [List.getElem?_map, List.getElem?_eq_getElem h]; rfl
theorem strV_set (l : List ByteArray) (k : Nat) (t : ByteArray) : (strV l).set k (.string t) = strV (l.set k t) := by unfold strV; rw [List.map_set]
theorem strV_app (a b : List ByteArray) : strV (a ++ b) = strV a ++ strV b := by unfold strV; simp
def OwnS (w : World) (base : Nat) (v : Value) (l : List ByteArray) : Prop := w.ownsRow base 9 1 v l.length (strV l)
/-- Texts in a row. -/
def InT1 (w : World) (a : Option Addr) (l : List ByteArray) : Prop := l.length = 0 ∨ ∃ g, a = some ⟨g, 0, none⟩ ∧ g < w.heap.size ∧ ∀ i (h : i < l.length), w.cell? ⟨g, i, none⟩ = some (.string l[i])
theorem InT1.step {w w' : World} {a : Option Addr} {l : List ByteArray} (h : InT1 w a l) (hb : Below w.heap.size w w') : InT1 w' a l := by
  rcases h with h | ⟨g, ha, hl, hc⟩
  · exact .inl h
  · exact .inr ⟨g, ha, Nat.lt_of_lt_of_le hl hb.size, fun i hi => (hb.cell hl).trans (hc i hi)⟩
theorem OwnS.form {w : World} {base : Nat} {v : Value} {l : List ByteArray} (h : OwnS w base v l) : (v = .slice none 0 0 ∧ l = []) ∨ ∃ g cap, v = .slice (some ⟨g, 0, none⟩) l.length cap ∧ base ≤ g ∧ g < w.heap.size := by
  have hlt := World.ownsRow.lt h
  obtain ⟨h1, h2⟩ := h
  rcases h2 with ⟨hv, h0⟩ | ⟨g, cap, cur, hv, hg, hh, r⟩
  · exact .inl ⟨hv, List.length_eq_zero_iff.1 h0⟩
  · exact .inr ⟨g, cap, hv, hg, (hlt g (by rw [hv]; rfl)).2⟩
theorem OwnS.in1 {w : World} {base : Nat} {v : Value} {l : List ByteArray} (h : OwnS w base v l) : ∃ p cap, v = .slice p l.length cap ∧ InT1 w p l := by
  rcases h.form with ⟨rfl, rfl⟩ | ⟨g, cap, rfl, _, hg⟩
  · exact ⟨none, 0, rfl, .inl rfl⟩
  · exact ⟨_, cap, rfl, .inr ⟨g, rfl, hg, fun i hi => owns_cell h i _ (strV_get l i hi)⟩⟩
def marksS (q n : Nat) : List ByteArray := (List.range n).map fun i => mt (q + i)
theorem marksS_len (q n : Nat) : (marksS q n).length = n := by unfold marksS; simp
theorem marksS_get (q n i : Nat) (h : i < (marksS q n).length) : (marksS q n)[i] = mt (q + i) := by simp [marksS]
def markMixS (q : Nat) (l : List ByteArray) (k : Nat) : List ByteArray := marksS q k ++ l.drop k
theorem markMixS_len (q : Nat) (l : List ByteArray) (k : Nat) (h : k ≤ l.length) : (markMixS q l k).length = l.length := by unfold markMixS; rw [List.length_append, marksS_len, List.length_drop]; omega
theorem markMixS_zero (q : Nat) (l : List ByteArray) : markMixS q l 0 = l := by unfold markMixS marksS; simp
theorem markMixS_full (q : Nat) (l : List ByteArray) : markMixS q l l.length = marksS q l.length := by unfold markMixS; simp
theorem markMixS_set (q : Nat) (l : List ByteArray) (k : Nat) (h : k < l.length) : (markMixS q l k).set k (mt (q + k)) = markMixS q l (k + 1) := by
  unfold markMixS
  rw [List.set_append_right _ _ (by rw [marksS_len]; omega), marksS_len, Nat.sub_self]
  have e : marksS q (k + 1) = marksS q k ++ [mt (q + k)] := by unfold marksS; rw [List.range_succ, List.map_append]; rfl
  rw [e, List.append_assoc]
  congr 1
  rw [List.drop_eq_getElem_cons h]; rfl

set_option maxRecDepth 4000 in
set_option maxHeartbeats 2000000 in
theorem markStringS_any (base : Nat) (v : Value) (l : List ByteArray) (q : Nat) (w : World) (hown : OwnS w base v l) (h1 : 1 ≤ q) (h2 : q + l.length ≤ 17592186044416) (hl : l.length ≤ 1048576) :
    Calls Tryz.prog 21 #[v, .int .i64 q] w fun e w' => e = .returned (.int .i64 ((q + l.length : Nat) : Int)) ∧ OwnS w' base v (marksS q l.length) ∧ w.grownBy w' v.ownBlock := by
  rcases hown.form with ⟨rfl, rfl⟩ | ⟨g, c, rfl, hgb, hgl⟩
  · have HO0 : Hid (OwnS _ _ _ _) := hown
    clear hown
    go_enter Tryz.func21, Tryz.ntmps21
    go_wp2_with fail
    refine wp_loop_rounds 1 ?_
    rw [rounds_succ]
    go_wp2_with fail
    go_ret
    exact ⟨rfl, HO0.out, grown_refl _ _⟩
  · have HO0 : Hid (OwnS _ _ _ _) := hown
    clear hown
    go_enter Tryz.func21, Tryz.ntmps21
    go_wp2_with fail
    go_loopw [1, 5] (fun x i wr => ∃ k : Nat, k ≤ l.length ∧ i = .int .i64 k ∧ x = .int .i64 ((q + k : Nat) : Int) ∧ wr.ownsRow base 9 1 (.slice (some ⟨g, 0, none⟩) l.length c) l.length (strV (markMixS q l k)) ∧ w.grownBy wr (some g)) (fun _ i _ => l.length - (intOf i).toNat)
    case atStart => exact ⟨0, Nat.zero_le _, rfl, rfl, by rw [markMixS_zero]; exact HO0.out, grown_refl _ _⟩
    case round =>
      obtain ⟨k, hk, rfl, rfl, hown, hgr⟩ := hrel
      have HB : Hid (World.grownBy _ _ _) := hgr
      have hz := hgr.size
      clear hgr HO0
      by_cases hlt : k < l.length
      · have hlt2 : (k : Int) < (l.length : Int) := by omega
        have hm := markMixS_len q l k hk
        have HO : Hid (World.ownsRow _ _ _ _ _ _ _) := hown
        have hglr : g < wr.heap.size := (hown.lt g rfl).2
        clear hown
        go_wp2_with fail
        refine (markText_any (q + k) (by omega) (by omega) _).mono ?_
        rintro e w2 ⟨rfl, hb2⟩
        have hown2 := owns_below HO.out hb2
        obtain ⟨z0, y0⟩ := own_there hown2 k (by omega)
        have f0 := World.ownsRow.frozenAt hown2 k
        have hst := (World.ownsRow.stored hown2 k (.string (mt (q + k)))).1
        have he : (strV (markMixS q l k)).set k (.string (mt (q + k))) = strV (markMixS q l (k + 1)) := by
          rw [strV_set, markMixS_set q l k hlt]
        rw [he] at hst
        have HS : Hid (World.ownsRow _ _ _ _ _ _ _) := hst
        have HB2 : Hid (World.grownBy _ _ _) := grown_trans HB.out (grown_below hb2)
        have hz2 := hb2.size
        clear hst he hown2 hb2 hm HO
        go_wp2_with fail
        go_roundw
        case rel => exact ⟨k + 1, by omega, by go_num, by go_num, HS.out, grown_trans HB2.out grown_set⟩
        case measure => simp [intOf]; omega
      · obtain rfl : k = l.length := by omega
        rw [markMixS_full] at hown
        have HO : Hid (World.ownsRow _ _ _ _ _ _ _) := hown
        clear hown
        go_wp2_with fail
        go_ret
        exact ⟨rfl, by unfold OwnS; rw [marksS_len]; exact HO.out, HB.out⟩

set_option maxRecDepth 4000 in
set_option maxHeartbeats 2000000 in
theorem heldStringS_any (a : Option Addr) (c n : Nat) (q : Nat) (w : World) (hr : InT1 w a (marksS q n)) (h1 : 1 ≤ q) (h2 : q + n ≤ 17592186044416) (hl : n ≤ 1048576) :
    Calls Tryz.prog 22 #[.slice a n c, .int .i64 q] w fun e w' => e = .returned (.int .i64 ((q + n : Nat) : Int)) ∧ Below w.heap.size w w' := by
  have HR : Hid (InT1 _ _ _) := hr
  clear hr
  go_enter Tryz.func22, Tryz.ntmps22
  go_wp2_with fail
  go_loopw [1, 5] (fun x i wr => ∃ k : Nat, k ≤ n ∧ i = .int .i64 k ∧ x = .int .i64 ((q + k : Nat) : Int) ∧ Below w.heap.size w wr) (fun _ i _ => n - (intOf i).toNat)
  case atStart => exact ⟨0, Nat.zero_le _, rfl, rfl, Below.refl _ _⟩
  case round =>
    obtain ⟨k, hk, rfl, rfl, hbel⟩ := hrel
    have hz := hbel.size
    by_cases hlt : k < n
    · rcases HR.out.step hbel with h0 | ⟨g, rfl, l1, x⟩
      · rw [marksS_len] at h0; omega
      have x0 := x k (by rw [marksS_len]; exact hlt)
      simp only [marksS_get] at x0
      have hk1 : (k : Int) < (n : Int) := by omega
      have HM0 := fun W : World => markText_any (q + k) (by omega) (by omega) W
      obtain ⟨T, hT⟩ : ∃ T, T = mt (q + k) := ⟨_, rfl⟩
      rw [← hT] at x0 HM0
      have HM : Hid (∀ W : World, Calls _ _ _ W _) := HM0
      have q0 : ∀ u : Under wr, u.x.cell? ⟨g, k, none⟩ = some (.string T) := fun u => (u.h.cell l1).trans x0
      clear HM0 hT x x0
      have hnu : Nonempty (Under wr) := ⟨⟨wr, Below.refl _ _⟩⟩
      go_wp2_with fail
      refine wp_region_under (by kernel_rfl) (by kernel_rfl) ?_
      repeat (go_big_quiet_step ((go_at_call 44; exact calls_under _ (HM.out _))))
      refine wpQuiet_nil ?_
      rintro _ ⟨u, rfl⟩
      go_wp2_with fail
      go_roundw
      case rel => exact ⟨k + 1, by omega, by go_num, by go_num, hbel.trans (u.h.mono hbel.size)⟩
      case measure => simp [intOf]; omega
    · obtain rfl : k = n := by omega
      go_wp2_with fail
      go_ret
      exact ⟨rfl, hbel⟩
set_option maxRecDepth 4000 in
set_option maxHeartbeats 1000000 in
theorem eqStrings_any (p1 p2 : Option Addr) (c1 c2 : Nat) (l : List ByteArray) (w : World) (h1 : InT1 w p1 l) (h2 : InT1 w p2 l) (hlen : l.length ≤ 1048576) :
    Calls Tryz.prog 18 #[.slice p1 l.length c1, .slice p2 l.length c2] w fun e w' => e = .returned (.bool true) ∧ Below w.heap.size w w' := by
  have H1 : Hid (InT1 _ _ _) := h1
  have H2 : Hid (InT1 _ _ _) := h2
  clear h1 h2
  go_enter Tryz.func18, Tryz.ntmps18
  go_wp2_with fail
  go_loopw [5] (fun i wr => ∃ k : Nat, k ≤ l.length ∧ i = .int .i64 k ∧ Below w.heap.size w wr) (fun i _ => l.length - (intOf i).toNat)
  case atStart => exact ⟨0, Nat.zero_le _, rfl, Below.refl _ _⟩
  case round =>
    obtain ⟨k, hk, rfl, hbel⟩ := hrel
    by_cases hlt : k < l.length
    · rcases H1.out.step hbel with h0 | ⟨g1, rfl, l1, x1⟩
      · omega
      rcases H2.out.step hbel with h0 | ⟨g2, rfl, l2, x2⟩
      · omega
      have hk1 : (k : Int) < (l.length : Int) := by omega
      obtain ⟨e, he⟩ : ∃ e, e = l[k] := ⟨_, rfl⟩
      have q0 : ∀ u : Under wr, u.x.cell? ⟨g1, k, none⟩ = some (.string e) := fun u => (u.h.cell l1).trans (by rw [he]; exact x1 k hlt)
      have r0 : ∀ u : Under wr, u.x.cell? ⟨g2, k, none⟩ = some (.string e) := fun u => (u.h.cell l2).trans (by rw [he]; exact x2 k hlt)
      have hnu : Nonempty (Under wr) := ⟨⟨wr, Below.refl _ _⟩⟩
      clear x1 x2 he
      go_wp2_with fail
      refine wp_region_under (by kernel_rfl) (by kernel_rfl) ?_
      repeat (go_big_quiet_step (fail))
      refine wpQuiet_nil ?_
      rintro _ ⟨u, rfl⟩
      go_wp2_with fail
      go_roundw
      case rel => exact ⟨k + 1, by omega, by go_num, hbel.trans (u.h.mono hbel.size)⟩
      case measure => simp [intOf]; omega
    · have hlt2 : ¬ (k : Int) < (l.length : Int) := by omega
      go_wp2_with fail
      go_ret
      exact ⟨rfl, hbel⟩
end Go.Proofs.YtdchhjnmhnehiaaGreatDoor.Tr
