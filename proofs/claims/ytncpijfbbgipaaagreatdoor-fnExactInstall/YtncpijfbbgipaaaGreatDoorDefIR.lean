/- Whether a definition of an index is right: what the program and the specification answer. -/
import Derived.Test.YtncpijfbbgipaaaGreatDoorChgBQ
import Derived.Test.YtncpijfbbgipaaaGreatDoorDefE
import Derived.Test.YtncpijfbbgipaaaGreatDoorPathWR
namespace Go.Proofs.YtncpijfbbgipaaaGreatDoor.Tr
open Go.RowKit
set_option linter.unusedVariables false

def okPt (p : Prt) : Bool := pathB p.path
def alikeP (s : ByteArray) (q : Prt) : Bool := q.path.toList == s.toList
/-- No path twice. -/
def diffB (pre : List Prt) : List Prt → Bool
  | [] => true
  | p :: t => !(pre.any (alikeP p.path)) && diffB (pre ++ [p]) t
theorem diffB_cons (pre : List Prt) (p : Prt) (t : List Prt) : diffB pre (p :: t) = (!(pre.any (alikeP p.path)) && diffB (pre ++ [p]) t) := rfl
theorem drop_consD (l : List Prt) (k : Nat) (h : k < l.length) : l.drop k = l[k] :: l.drop (k + 1) := by rw [List.drop_eq_getElem_cons h]
def defB (n : ByteArray) (l : List Prt) : Bool := shortB n && (decide (1 ≤ l.length ∧ l.length ≤ 2) && (l.all okPt && diffB [] l))
theorem ReadD.take {w : World} {g : Nat} {f : List Prt} (h : ReadD w g f) (k : Nat) : ReadD w g (f.take k) :=
  ⟨h.lt, fun i hi => by
    have h1 : i < f.length := by simp at hi; omega
    have := h.cells i h1
    simpa using this⟩

set_option maxRecDepth 4000 in
set_option maxHeartbeats 1000000 in
theorem isWrongPart_any (s : ByteArray) (d : Bool) (w : World) (hs : s.size ≤ 1048576) :
    Calls Tryz.prog 108 #[.agg #[.string s, .bool d]] w fun e w' => e = .returned (.bool (!(pathB s))) ∧ Below w.heap.size w w' := by
  have hb0 : Below w.heap.size w (w.alloc (.cells #[.string s, .bool d] 112)) := (Below.refl _ _).alloc (Nat.le_refl _) _
  have HC : Hid (∀ W : World, Calls _ _ _ W _) := fun W => pathOK_any s W hs
  go_enter Tryz.func108, Tryz.ntmps108
  go_wp2_with fail
  refine (HC.out _).mono ?_
  rintro e w1 ⟨rfl, hb⟩
  have hbw := hb0.trans (hb.mono hb0.size)
  clear hb
  go_wp2_with fail
  go_ret
  exact ⟨rfl, hbw⟩
set_option maxRecDepth 4000 in
set_option maxHeartbeats 1000000 in
theorem idxWrongD_any (q : Option Addr) (qc : Nat) (l : List Prt) (w : World) (hr : RowD w q l) (hl : l.length ≤ 1048576) (hs : ∀ v ∈ l, szPt v) :
    Calls Tryz.prog 123 #[.slice q l.length qc, .func (.func 108) #[] #[]] w fun e w' => (∃ i : Int, e = .returned (.int .i64 i) ∧ decide (0 ≤ i) = !(l.all okPt)) ∧ Below w.heap.size w w' := by
  have HR : Hid (RowD _ _ _) := hr
  have HS : Hid _ := hs
  clear hr hs
  go_enter Tryz.func123, Tryz.ntmps123
  go_wp2_with fail
  go_loopw [8] (fun i wr => ∃ k : Nat, k ≤ l.length ∧ i = .int .i64 k ∧ (∀ u ∈ l.take k, okPt u = true) ∧ Below w.heap.size w wr) (fun i _ => l.length - (intOf i).toNat)
  case atStart => exact ⟨0, Nat.zero_le _, rfl, fun u hu => by simp at hu, Below.refl _ _⟩
  case round =>
    obtain ⟨k, hk, rfl, hall, hbel⟩ := hrel
    have HA : Hid _ := hall
    clear hall
    by_cases hlt : k < l.length
    · rcases HR.out.next hbel with h0 | ⟨g, rfl, R⟩
      · subst h0; simp at hlt
      obtain ⟨x0, x1⟩ := R.cells k hlt
      have hlt2 : (k : Int) < (l.length : Int) := by omega
      have HK0 : ∀ W : World, Calls Tryz.prog 108 #[.agg #[.string l[k].path, .bool l[k].desc]] W fun e w' => e = .returned (.bool (!(okPt l[k]))) ∧ Below W.heap.size W w' := fun W => isWrongPart_any l[k].path l[k].desc W (HS.out l[k] (List.getElem_mem _))
      cases hP : okPt l[k]
      · rw [hP] at HK0
        have HK : Hid _ := HK0
        have hal : l.all okPt = false := by
          rw [Bool.eq_false_iff]; intro hh
          have := List.all_eq_true.mp hh l[k] (List.getElem_mem _)
          rw [hP] at this; cases this
        have HL : Hid _ := hal
        clear R hP HK0 hal
        go_wp2_with fail
        refine (HK.out _).mono ?_
        rintro e w1 ⟨rfl, hb⟩
        have hb1 := hbel.trans (hb.mono hbel.size)
        clear hb
        go_wp2_with fail
        go_ret
        exact ⟨⟨k, rfl, by rw [HL.out]; exact decide_eq_true (by omega)⟩, hb1⟩
      · rw [hP] at HK0
        have HK : Hid _ := HK0
        have HPK : Hid _ := hP
        clear R hP HK0
        go_wp2_with fail
        refine (HK.out _).mono ?_
        rintro e w1 ⟨rfl, hb⟩
        have hb1 := hbel.trans (hb.mono hbel.size)
        clear hb
        go_wp2_with fail
        go_roundw
        case rel =>
          refine ⟨k + 1, by omega, by go_num, ?_, hb1⟩
          intro u hu
          rw [List.take_succ_eq_append_getElem hlt] at hu
          rcases List.mem_append.mp hu with h | h
          · exact HA.out u h
          · simp at h; subst h; exact HPK.out
        case measure => simp [intOf]; omega
    · have hlt2 : ¬ (k : Int) < (l.length : Int) := by omega
      have hal : l.all okPt = true := List.all_eq_true.mpr fun u hu => HA.out u (by rw [List.take_of_length_le (by omega)]; exact hu)
      have HL : Hid _ := hal
      clear hal
      go_wp2_with fail
      go_ret
      exact ⟨⟨-1, rfl, by rw [HL.out]; rfl⟩, hbel⟩
set_option maxRecDepth 4000 in
set_option maxHeartbeats 1000000 in
theorem anyWrongD_any (q : Option Addr) (qc : Nat) (l : List Prt) (w : World) (hr : RowD w q l) (hl : l.length ≤ 1048576) (hs : ∀ v ∈ l, szPt v) :
    Calls Tryz.prog 107 #[.slice q l.length qc, .func (.func 108) #[] #[]] w fun e w' => e = .returned (.bool (!(l.all okPt))) ∧ Below w.heap.size w w' := by
  have HI : Hid (Calls _ _ _ _ _) := idxWrongD_any q qc l w hr hl hs
  clear hr hs
  go_enter Tryz.func107, Tryz.ntmps107
  go_wp2_with fail
  refine HI.out.mono ?_
  rintro e w1 ⟨⟨i, rfl, hi⟩, hb⟩
  have HJ : Hid _ := hi
  clear hi HI
  go_wp2_with fail
  go_ret
  exact ⟨ret_bool' HJ.out, hb⟩

set_option maxRecDepth 4000 in
set_option maxHeartbeats 1000000 in
theorem alikeD_any (s s2 : ByteArray) (d2 : Bool) (b : Nat) (w : World) (hc : w.cell? ⟨b, 0, none⟩ = some (.string s)) (hb : b < w.heap.size) :
    Calls Tryz.prog 125 #[.agg #[.string s2, .bool d2], .pointer (some ⟨b, 0, none⟩)] w fun e w' => e = .returned (.bool (s2.toList == s.toList)) ∧ Below w.heap.size w w' := by
  go_enter Tryz.func125, Tryz.ntmps125
  go_wp2_with fail
  go_ret
  exact ⟨rfl, by (repeat (first | (with_reducible exact Below.refl _ _) | (with_reducible assumption) | (with_reducible apply below_drewN) | (with_reducible apply Below.drew) | ((with_reducible refine Below.setCell ?_ ?_ _); rotate_left; focus (first | (simp; done) | (simp; omega) | omega)) | ((with_reducible refine Below.alloc ?_ ?_ _); rotate_left; focus (first | (simp; done) | (simp; omega) | omega))))⟩
set_option maxRecDepth 4000 in
set_option maxHeartbeats 1000000 in
theorem idxAlikeD_any (s : ByteArray) (b : Nat) (q : Option Addr) (qc : Nat) (l : List Prt) (w : World) (hc : w.cell? ⟨b, 0, none⟩ = some (.string s)) (hb : b < w.heap.size) (hr : RowD w q l) (hl : l.length ≤ 1048576) :
    Calls Tryz.prog 123 #[.slice q l.length qc, .func (.func 125) #[] #[.pointer (some ⟨b, 0, none⟩)]] w fun e w' => (∃ i : Int, e = .returned (.int .i64 i) ∧ decide (0 ≤ i) = l.any (alikeP s)) ∧ Below w.heap.size w w' := by
  have HR : Hid (RowD _ _ _) := hr
  clear hr
  obtain ⟨P, hP0⟩ : ∃ P : Prt → Bool, P = alikeP s := ⟨_, rfl⟩
  rw [← hP0]
  have HP0 : Hid _ := hP0
  clear hP0
  go_enter Tryz.func123, Tryz.ntmps123
  go_wp2_with fail
  go_loopw [8] (fun i wr => ∃ k : Nat, k ≤ l.length ∧ i = .int .i64 k ∧ (∀ u ∈ l.take k, P u = false) ∧ Below w.heap.size w wr) (fun i _ => l.length - (intOf i).toNat)
  case atStart => exact ⟨0, Nat.zero_le _, rfl, fun u hu => by simp at hu, Below.refl _ _⟩
  case round =>
    obtain ⟨k, hk, rfl, hall, hbel⟩ := hrel
    have HA : Hid _ := hall
    clear hall
    by_cases hlt : k < l.length
    · rcases HR.out.next hbel with h0 | ⟨g, rfl, R⟩
      · subst h0; simp at hlt
      obtain ⟨x0, x1⟩ := R.cells k hlt
      have hlt2 : (k : Int) < (l.length : Int) := by omega
      have HK0 := alikeD_any s l[k].path l[k].desc b wr ((hbel.cell hb).trans hc) (Nat.lt_of_lt_of_le hb hbel.size)
      have hPk : P l[k] = (l[k].path.toList == s.toList) := by rw [HP0.out]; rfl
      rw [← hPk] at HK0
      cases hP : P l[k]
      · rw [hP] at HK0
        have HK : Hid (Calls _ _ _ _ _) := HK0
        have HPK : Hid _ := hP
        clear R hP HK0 hPk
        go_wp2_with fail
        refine HK.out.mono ?_
        rintro e w1 ⟨rfl, hb1⟩
        have hb2 := hbel.trans (hb1.mono hbel.size)
        clear hb1 HK
        go_wp2_with fail
        go_roundw
        case rel =>
          refine ⟨k + 1, by omega, by go_num, ?_, hb2⟩
          intro u hu
          rw [List.take_succ_eq_append_getElem hlt] at hu
          rcases List.mem_append.mp hu with h | h
          · exact HA.out u h
          · simp at h; subst h; exact HPK.out
        case measure => simp [intOf]; omega
      · rw [hP] at HK0
        have HK : Hid (Calls _ _ _ _ _) := HK0
        have hal : l.any P = true := List.any_eq_true.mpr ⟨l[k], List.getElem_mem _, hP⟩
        have HL : Hid _ := hal
        clear R hP HK0 hal hPk
        go_wp2_with fail
        refine HK.out.mono ?_
        rintro e w1 ⟨rfl, hb1⟩
        have hb2 := hbel.trans (hb1.mono hbel.size)
        clear hb1 HK
        go_wp2_with fail
        go_ret
        exact ⟨⟨k, rfl, by rw [HL.out]; exact decide_eq_true (by omega)⟩, hb2⟩
    · have hlt2 : ¬ (k : Int) < (l.length : Int) := by omega
      have hal : l.any P = false := by
        rw [Bool.eq_false_iff]; intro hh
        obtain ⟨u, hu, he⟩ := List.any_eq_true.mp hh
        have := HA.out u (by rw [List.take_of_length_le (by omega)]; exact hu)
        rw [this] at he; cases he
      have HL : Hid _ := hal
      clear hal
      go_wp2_with fail
      go_ret
      exact ⟨⟨-1, rfl, by rw [HL.out]; rfl⟩, hbel⟩
set_option maxRecDepth 4000 in
set_option maxHeartbeats 1000000 in
theorem conAlikeD_any (s : ByteArray) (b : Nat) (q : Option Addr) (qc : Nat) (l : List Prt) (w : World) (hc : w.cell? ⟨b, 0, none⟩ = some (.string s)) (hb : b < w.heap.size) (hr : RowD w q l) (hl : l.length ≤ 1048576) :
    Calls Tryz.prog 107 #[.slice q l.length qc, .func (.func 125) #[] #[.pointer (some ⟨b, 0, none⟩)]] w fun e w' => e = .returned (.bool (l.any (alikeP s))) ∧ Below w.heap.size w w' := by
  have HC : Hid (Calls _ _ _ _ _) := idxAlikeD_any s b q qc l w hc hb hr hl
  clear hr hc
  go_enter Tryz.func107, Tryz.ntmps107
  go_wp2_with fail
  refine HC.out.mono ?_
  rintro e w1 ⟨⟨i, rfl, hi⟩, hb⟩
  go_wp2_with fail
  go_ret
  rw [← hi]
  exact ⟨rfl, hb⟩
set_option maxRecDepth 4000 in
set_option maxHeartbeats 1000000 in
theorem pathsDiffer_any (p : Option Addr) (cap : Nat) (f : List Prt) (w : World) (hr : RowD w p f) (hl : f.length ≤ 1048576) (hcap : f.length ≤ cap) :
    Calls Tryz.prog 109 #[.slice p f.length cap] w fun e w' => e = .returned (.bool (diffB [] f)) ∧ Below w.heap.size w w' := by
  have HR : Hid (RowD _ _ _) := hr
  clear hr
  obtain ⟨R, hR⟩ : ∃ R, R = diffB [] f := ⟨_, rfl⟩
  rw [← hR]
  have HRR : Hid _ := hR
  clear hR
  go_enter Tryz.func109, Tryz.ntmps109
  go_wp2_with fail
  go_loopw [8] (fun i wr => ∃ k : Nat, k ≤ f.length ∧ i = .int .i64 k ∧ R = diffB (f.take k) (f.drop k) ∧ Below w.heap.size w wr) (fun i _ => f.length - (intOf i).toNat)
  case atStart => exact ⟨0, Nat.zero_le _, rfl, HRR.out, Below.refl _ _⟩
  case round =>
    obtain ⟨k, hk, rfl, hall, hbel⟩ := hrel
    have HA : Hid _ := hall
    clear hall
    by_cases hlt : k < f.length
    · rcases HR.out.next hbel with h0 | ⟨g, rfl, R1⟩
      · subst h0; simp at hlt
      obtain ⟨x0, x1⟩ := R1.cells k hlt
      have hlt2 : (k : Int) < (f.length : Int) := by omega
      have hk3 : (k : Int) ≤ (cap : Int) := by omega
      have hz := hbel.size
      have R2 : RowD wr (some ⟨g, 0, none⟩) (f.take k) := .inr ⟨g, rfl, R1.take k⟩
      have hlen : (f.take k).length = k := by simp; omega
      have hb0 : Below wr.heap.size wr (wr.alloc (.cells #[.string f[k].path, .bool f[k].desc] 112)) := (Below.refl _ _).alloc (Nat.le_refl _) _
      have HC0 := conAlikeD_any f[k].path wr.heap.size (some ⟨g, 0, none⟩) cap (f.take k) (wr.alloc (.cells #[.string f[k].path, .bool f[k].desc] 112)) (by simp [go_sem]) (by simp) (R2.next hb0) (by omega)
      rw [hlen] at HC0
      have hbA := hbel.trans (hb0.mono hbel.size)
      have hcons : R = (!((f.take k).any (alikeP f[k].path)) && diffB (f.take (k + 1)) (f.drop (k + 1))) := HA.out.trans (by rw [drop_consD f k hlt, diffB_cons, List.take_succ_eq_append_getElem hlt])
      clear R1 R2 hlen
      cases hP : (f.take k).any (alikeP f[k].path)
      · rw [hP] at HC0 hcons
        rw [Bool.not_false, Bool.true_and] at hcons
        have HC : Hid (Calls _ _ _ _ _) := HC0
        have HN : Hid (R = _) := hcons
        clear hP HC0 hcons
        go_wp2_with fail
        refine HC.out.mono ?_
        rintro e w1 ⟨rfl, hb1⟩
        have hb2 := hbA.trans (hb1.mono hbA.size)
        clear hb1 HC
        go_wp2_with fail
        go_roundw
        case rel => exact ⟨k + 1, by omega, by go_num, HN.out, hb2⟩
        case measure => simp [intOf]; omega
      · rw [hP] at HC0 hcons
        have HC : Hid (Calls _ _ _ _ _) := HC0
        have hRf : R = false := by rw [hcons]; rfl
        have HN : Hid (R = false) := hRf
        clear hP HC0 hcons hRf
        go_wp2_with fail
        refine HC.out.mono ?_
        rintro e w1 ⟨rfl, hb1⟩
        have hb2 := hbA.trans (hb1.mono hbA.size)
        clear hb1 HC
        go_wp2_with fail
        go_ret
        exact ⟨ret_bool' HN.out.symm, hb2⟩
    · have hlt2 : ¬ (k : Int) < (f.length : Int) := by omega
      have hRt : R = true := by rw [HA.out, List.drop_eq_nil_of_le (by omega)]; rfl
      have HN : Hid (R = true) := hRt
      clear hRt
      go_wp2_with fail
      go_ret
      exact ⟨ret_bool' HN.out.symm, hbel⟩

/-- A box of a definition: two cells. -/
structure BoxD (w W : World) (n : ByteArray) (v : Value) : Prop where
  bel : Below w.heap.size w W
  lt : w.heap.size < W.heap.size
  c0 : W.cell? ⟨w.heap.size, 0, none⟩ = some (.string n)
  c1 : W.cell? ⟨w.heap.size, 1, none⟩ = some v
theorem BoxD.start (w : World) (n : ByteArray) (v : Value) (T : TypeId) : BoxD w (w.alloc (.cells #[.string n, v] T)) n v :=
  ⟨(Below.refl _ _).alloc (Nat.le_refl _) _, by simp, by simp [go_sem], by simp [go_sem]⟩
theorem BoxD.step {w W W' : World} {n : ByteArray} {v : Value} (h : BoxD w W n v) (hb : Below W.heap.size W W') : BoxD w W' n v :=
  ⟨h.bel.trans (hb.mono h.bel.size), Nat.lt_of_lt_of_le h.lt hb.size, (hb.cell h.lt).trans h.c0, (hb.cell h.lt).trans h.c1⟩

set_option maxRecDepth 4000 in
set_option maxHeartbeats 1000000 in
theorem defOK_any (n : ByteArray) (p : Option Addr) (cap : Nat) (l : List Prt) (w : World) (hr : RowD w p l) (hn : n.size ≤ 1048576) (hl : l.length ≤ 1048576) (hcap : l.length ≤ cap) (hs : ∀ v ∈ l, szPt v) :
    Calls Tryz.prog 80 #[.agg #[.string n, .slice p l.length cap]] w fun e w' => e = .returned (.bool (defB n l)) ∧ Below w.heap.size w w' := by
  have X0 := BoxD.start w n (.slice p l.length cap) 86
  have HN : Hid (∀ W : World, Calls _ _ _ W _) := fun W => shortNameOK_any n W (by unfold maxLen; omega)
  have HW : Hid (∀ W : World, Below w.heap.size w W → Calls _ _ _ W _) := fun W hW => anyWrongD_any p cap l W (hr.next hW) hl hs
  have HD : Hid (∀ W : World, Below w.heap.size w W → Calls _ _ _ W _) := fun W hW => pathsDiffer_any p cap l W (hr.next hW) hl hcap
  obtain ⟨R, hR⟩ : ∃ R, R = defB n l := ⟨_, rfl⟩
  rw [← hR]
  unfold defB at hR
  cases hS : shortB n
  · rw [hS] at HN hR
    rw [Bool.false_and] at hR
    subst hR
    clear hr hs hS
    go_enter Tryz.func80, Tryz.ntmps80
    go_wp2_with fail
    refine (HN.out _).mono ?_
    rintro e w1 ⟨rfl, rfl⟩
    have hbw := X0.bel
    go_wp2_with fail
    go_ret
    exact ⟨rfl, hbw⟩
  · rw [hS] at HN hR
    rw [Bool.true_and] at hR
    by_cases h12 : 1 ≤ l.length ∧ l.length ≤ 2
    · rw [decide_eq_true h12, Bool.true_and] at hR
      have a1 : ¬ (l.length : Int) < 1 := by omega
      have a2 : ¬ (2 : Int) < (l.length : Int) := by omega
      cases hA : l.all okPt
      · rw [hA] at HW hR
        rw [Bool.false_and] at hR
        subst hR
        clear hr hs hS hA h12
        go_enter Tryz.func80, Tryz.ntmps80
        go_wp2_with fail
        refine (HN.out _).mono ?_
        rintro e w1 ⟨rfl, rfl⟩
        go_wp2_with fail
        refine (HW.out _ X0.bel).mono ?_
        rintro e w2 ⟨rfl, hb⟩
        have hbw := (X0.step hb).bel
        clear hb
        go_wp2_with fail
        go_ret
        exact ⟨rfl, hbw⟩
      · rw [hA] at HW hR
        rw [Bool.true_and] at hR
        rw [← hR] at HD
        clear hr hs hS hA h12 hR
        go_enter Tryz.func80, Tryz.ntmps80
        go_wp2_with fail
        refine (HN.out _).mono ?_
        rintro e w1 ⟨rfl, rfl⟩
        go_wp2_with fail
        refine (HW.out _ X0.bel).mono ?_
        rintro e w2 ⟨rfl, hb⟩
        have X2 := X0.step hb
        have c1 := X2.c1
        clear hb
        go_wp2_with fail
        refine (HD.out _ X2.bel).mono ?_
        rintro e w3 ⟨rfl, hb⟩
        have hbw := (X2.step hb).bel
        clear hb
        go_wp2_with fail
        go_ret
        exact ⟨rfl, hbw⟩
    · rw [decide_eq_false h12, Bool.false_and] at hR
      subst hR
      clear hr hs hS
      have hbw := X0.bel
      by_cases h1 : l.length < 1
      · have a1 : (l.length : Int) < 1 := by omega
        clear h12 h1
        go_enter Tryz.func80, Tryz.ntmps80
        go_wp2_with fail
        refine (HN.out _).mono ?_
        rintro e w1 ⟨rfl, rfl⟩
        go_wp2_with fail
        go_ret
        exact ⟨rfl, hbw⟩
      · have a1 : ¬ (l.length : Int) < 1 := by omega
        have a2 : (2 : Int) < (l.length : Int) := by omega
        clear h12 h1
        go_enter Tryz.func80, Tryz.ntmps80
        go_wp2_with fail
        refine (HN.out _).mono ?_
        rintro e w1 ⟨rfl, rfl⟩
        go_wp2_with fail
        go_ret
        exact ⟨rfl, hbw⟩

end Go.Proofs.YtncpijfbbgipaaaGreatDoor.Tr
