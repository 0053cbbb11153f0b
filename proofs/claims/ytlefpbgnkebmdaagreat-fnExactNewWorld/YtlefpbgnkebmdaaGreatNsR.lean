/- Rows of new collections, and stores of them: what the laws' helpers answer. -/
import Derived.Test.YtlefpbgnkebmdaaGreatColW
import Derived.Test.YtlefpbgnkebmdaaGreatStrM
namespace Go.Proofs.YtlefpbgnkebmdaaGreat.Ns
open Go.RowKit Tr Co
set_option linter.unusedVariables false

/-- A collection without chains and definitions: its name, where its empty lists lie. -/
structure NC where
  n : ByteArray
  pa : Option Addr
  ca : Nat
  pb : Option Addr
  cb : Nat
theorem infoNc : (Tryz.prog.info? 56).map (fun i => (i.zero, i.size, i.bytes)) = some (some (.agg #[.string em, .slice none 0 0, .slice none 0 0]), 3, 64) := by kernel_rfl
def rowN (t : NC) : List Value := [.string t.n, .slice t.pa 0 t.ca, .slice t.pb 0 t.cb]
def flatN (l : List NC) : List Value := l.flatMap rowN
theorem flatN_snoc (l : List NC) (f : NC) : flatN (l ++ [f]) = flatN l ++ rowN f := by unfold flatN; simp
theorem flatN_cons (v : NC) (l : List NC) : flatN (v :: l) = .string v.n :: .slice v.pa 0 v.ca :: .slice v.pb 0 v.cb :: flatN l := rfl
theorem flatN_len (l : List NC) : (flatN l).length = l.length * 3 := by
  induction l with
  | nil => rfl
  | cons v l ih => rw [flatN_cons]; simp [ih]; omega
theorem flatN_get : ∀ (l : List NC) (i : Nat) (h : i < l.length), (flatN l)[i * 3]? = some (.string l[i].n) ∧ (flatN l)[i * 3 + 1]? = some (.slice l[i].pa 0 l[i].ca) ∧ (flatN l)[i * 3 + 2]? = some (.slice l[i].pb 0 l[i].cb)
  | v :: l, 0, _ => ⟨rfl, rfl, rfl⟩
  | v :: l, i + 1, h => by
    have ih := flatN_get l i (by simpa using h)
    have e : flatN (v :: l) = rowN v ++ flatN l := by unfold flatN; simp
    rw [e, show (i + 1) * 3 = i * 3 + 3 by omega]
    have hl : (rowN v).length = 3 := rfl
    refine ⟨?_, ?_, ?_⟩
    · rw [List.getElem?_append_right (by omega), hl]; simpa using ih.1
    · rw [List.getElem?_append_right (by omega), hl, show i * 3 + 3 + 1 - 3 = i * 3 + 1 by omega]; simpa using ih.2.1
    · rw [List.getElem?_append_right (by omega), hl, show i * 3 + 3 + 2 - 3 = i * 3 + 2 by omega]; simpa using ih.2.2
theorem flatN_set : ∀ (l : List NC) (k : Nat) (t : ByteArray) (h : k < l.length), (flatN l).set (k * 3) (.string t) = flatN (l.set k { l[k] with n := t })
  | [], k, t, h => by simp at h
  | u :: l, 0, t, _ => rfl
  | u :: l, k + 1, t, h => by
    rw [List.set_cons_succ, flatN_cons, flatN_cons, show (u :: l)[k + 1] = l[k]'(by simpa using h) from rfl, ← flatN_set l k t (by simpa using h)]
    rw [show (k + 1) * 3 = k * 3 + 1 + 1 + 1 by omega]
    rfl
def OwnN (w : World) (base : Nat) (v : Value) (l : List NC) : Prop := w.ownsRow base 56 3 v l.length (flatN l)
/-- New collections in a row. -/
def InN3 (w : World) (a : Option Addr) (l : List NC) : Prop := l.length = 0 ∨ ∃ g, a = some ⟨g, 0, none⟩ ∧ g < w.heap.size ∧ ∀ i (h : i < l.length), w.cell? ⟨g, i * 3, none⟩ = some (.string l[i].n) ∧ w.cell? ⟨g, i * 3 + 1, none⟩ = some (.slice l[i].pa 0 l[i].ca) ∧ w.cell? ⟨g, i * 3 + 2, none⟩ = some (.slice l[i].pb 0 l[i].cb)
theorem InN3.step {w w' : World} {a : Option Addr} {l : List NC} (h : InN3 w a l) (hb : Below w.heap.size w w') : InN3 w' a l := by
  rcases h with h | ⟨g, ha, hl, hc⟩
  · exact .inl h
  · exact .inr ⟨g, ha, Nat.lt_of_lt_of_le hl hb.size, fun i hi => ⟨(hb.cell hl).trans (hc i hi).1, (hb.cell hl).trans (hc i hi).2.1, (hb.cell hl).trans (hc i hi).2.2⟩⟩
theorem OwnN.form {w : World} {base : Nat} {v : Value} {l : List NC} (h : OwnN w base v l) : (v = .slice none 0 0 ∧ l = []) ∨ ∃ g cap, v = .slice (some ⟨g, 0, none⟩) l.length cap ∧ base ≤ g ∧ g < w.heap.size := by
  have hlt := World.ownsRow.lt h
  obtain ⟨h1, h2⟩ := h
  rcases h2 with ⟨hv, h0⟩ | ⟨g, cap, cur, hv, hg, hh, r⟩
  · exact .inl ⟨hv, List.length_eq_zero_iff.1 h0⟩
  · exact .inr ⟨g, cap, hv, hg, (hlt g (by rw [hv]; rfl)).2⟩
theorem OwnN.in3 {w : World} {base n c : Nat} {p : Option Addr} {l : List NC} (h : OwnN w base (.slice p n c) l) : InN3 w p l := by
  rcases h.form with ⟨e, rfl⟩ | ⟨g, cap, e, _, hg⟩
  · exact .inl rfl
  · injection e with e1 e2 e3
    subst e1
    exact .inr ⟨g, rfl, hg, fun i hi => ⟨owns_cell h _ _ (flatN_get l i hi).1, owns_cell h _ _ (flatN_get l i hi).2.1, owns_cell h _ _ (flatN_get l i hi).2.2⟩⟩
theorem OwnN.sl {w : World} {base : Nat} {v : Value} {l : List NC} (h : OwnN w base v l) : ∃ p c, v = .slice p l.length c := by
  rcases h.form with ⟨rfl, rfl⟩ | ⟨g, cap, rfl, _, _⟩
  · exact ⟨none, 0, rfl⟩
  · exact ⟨_, _, rfl⟩
/-- The same row, its names others. -/
def named (l : List NC) (ns : List ByteArray) : List NC := (l.zip ns).map fun x => { x.1 with n := x.2 }

set_option maxRecDepth 4000 in
set_option maxHeartbeats 1000000 in
theorem markTxnS_none (p : Option Addr) (c : Nat) (k : Int) (w : World) : Calls Tryz.prog 30 #[.slice p 0 c, .int .i64 k] w fun e w' => e = .returned (.int .i64 k) ∧ w' = w := by
  go_enter Tryz.func30, Tryz.ntmps30
  go_wp2_with fail
  go_loopw [1, 5] (fun u i wr => u = .int .i64 k ∧ i = .int .i64 0 ∧ wr = w) (fun _ _ _ => 0)
  case atStart => exact ⟨rfl, rfl, rfl⟩
  case round =>
    obtain ⟨rfl, rfl, rfl⟩ := hrel
    go_wp2_with fail
    go_ret
    exact ⟨rfl, rfl⟩
set_option maxRecDepth 4000 in
set_option maxHeartbeats 1000000 in
theorem markDoneS_none (p : Option Addr) (c : Nat) (k : Int) (w : World) : Calls Tryz.prog 31 #[.slice p 0 c, .int .i64 k] w fun e w' => e = .returned (.int .i64 k) ∧ w' = w := by
  go_enter Tryz.func31, Tryz.ntmps31
  go_wp2_with fail
  go_loopw [1, 5] (fun u i wr => u = .int .i64 k ∧ i = .int .i64 0 ∧ wr = w) (fun _ _ _ => 0)
  case atStart => exact ⟨rfl, rfl, rfl⟩
  case round =>
    obtain ⟨rfl, rfl, rfl⟩ := hrel
    go_wp2_with fail
    go_ret
    exact ⟨rfl, rfl⟩
set_option maxRecDepth 4000 in
set_option maxHeartbeats 1000000 in
theorem heldTxnS_none (p : Option Addr) (c : Nat) (k : Int) (w : World) : Calls Tryz.prog 36 #[.slice p 0 c, .int .i64 k] w fun e w' => e = .returned (.int .i64 k) ∧ w' = w := by
  go_enter Tryz.func36, Tryz.ntmps36
  go_wp2_with fail
  go_loopw [1, 5] (fun u i wr => u = .int .i64 k ∧ i = .int .i64 0 ∧ wr = w) (fun _ _ _ => 0)
  case atStart => exact ⟨rfl, rfl, rfl⟩
  case round =>
    obtain ⟨rfl, rfl, rfl⟩ := hrel
    go_wp2_with fail
    go_ret
    exact ⟨rfl, rfl⟩
set_option maxRecDepth 4000 in
set_option maxHeartbeats 1000000 in
theorem heldDoneS_none (p : Option Addr) (c : Nat) (k : Int) (w : World) : Calls Tryz.prog 37 #[.slice p 0 c, .int .i64 k] w fun e w' => e = .returned (.int .i64 k) ∧ w' = w := by
  go_enter Tryz.func37, Tryz.ntmps37
  go_wp2_with fail
  go_loopw [1, 5] (fun u i wr => u = .int .i64 k ∧ i = .int .i64 0 ∧ wr = w) (fun _ _ _ => 0)
  case atStart => exact ⟨rfl, rfl, rfl⟩
  case round =>
    obtain ⟨rfl, rfl, rfl⟩ := hrel
    go_wp2_with fail
    go_ret
    exact ⟨rfl, rfl⟩
set_option maxRecDepth 4000 in
set_option maxHeartbeats 1000000 in
theorem eqTxnS_none (p1 p2 : Option Addr) (c1 c2 : Nat) (w : World) : Calls Tryz.prog 26 #[.slice p1 0 c1, .slice p2 0 c2] w fun e w' => e = .returned (.bool true) ∧ w' = w := by
  go_enter Tryz.func26, Tryz.ntmps26
  go_wp2_with fail
  go_loopw [5] (fun i wr => i = .int .i64 0 ∧ wr = w) (fun _ _ => 0)
  case atStart => exact ⟨rfl, rfl⟩
  case round =>
    obtain ⟨rfl, rfl⟩ := hrel
    go_wp2_with fail
    go_ret
    exact ⟨rfl, rfl⟩
set_option maxRecDepth 4000 in
set_option maxHeartbeats 1000000 in
theorem eqDoneS_none (p1 p2 : Option Addr) (c1 c2 : Nat) (w : World) : Calls Tryz.prog 27 #[.slice p1 0 c1, .slice p2 0 c2] w fun e w' => e = .returned (.bool true) ∧ w' = w := by
  go_enter Tryz.func27, Tryz.ntmps27
  go_wp2_with fail
  go_loopw [5] (fun i wr => i = .int .i64 0 ∧ wr = w) (fun _ _ => 0)
  case atStart => exact ⟨rfl, rfl⟩
  case round =>
    obtain ⟨rfl, rfl⟩ := hrel
    go_wp2_with fail
    go_ret
    exact ⟨rfl, rfl⟩
set_option maxRecDepth 4000 in
set_option maxHeartbeats 1000000 in
theorem eqCollS_new (p1 p2 : Option Addr) (c1 c2 : Nat) (l1 l2 : List NC) (w : World) (h1 : InN3 w p1 l1) (h2 : InN3 w p2 l2) (hn : l1.map NC.n = l2.map NC.n) (hlen : l1.length ≤ 1048576) :
    Calls Tryz.prog 25 #[.slice p1 l1.length c1, .slice p2 l2.length c2] w fun e w' => e = .returned (.bool true) ∧ Below w.heap.size w w' := by
  have he : l2.length = l1.length := by have := congrArg List.length hn; simpa using this.symm
  have hnk : ∀ k (h : k < l1.length), l2[k]'(by omega) = { l2[k]'(by omega) with n := l1[k].n } := by
    intro k h
    have : (l1.map NC.n)[k]'(by simpa using h) = (l2.map NC.n)[k]'(by simp; omega) := by simp [hn]
    simp at this
    rw [this]
  rw [he]
  have H1 : Hid (InN3 _ _ _) := h1
  have H2 : Hid (InN3 _ _ _) := h2
  have HN : Hid (∀ k (h : k < l1.length), _) := hnk
  clear h1 h2 hn hnk
  go_enter Tryz.func25, Tryz.ntmps25
  go_wp2_with fail
  go_loopw [5] (fun i wr => ∃ k : Nat, k ≤ l1.length ∧ i = .int .i64 k ∧ Below w.heap.size w wr) (fun i _ => l1.length - (intOf i).toNat)
  case atStart => exact ⟨0, Nat.zero_le _, rfl, Below.refl _ _⟩
  case round =>
    obtain ⟨k, hk, rfl, hbel⟩ := hrel
    by_cases hlt : k < l1.length
    · rcases H1.out.step hbel with h0 | ⟨g1, rfl, e1, x1⟩
      · omega
      rcases H2.out.step hbel with h0 | ⟨g2, rfl, e2, x2⟩
      · omega
      have hk1 : (k : Int) < (l1.length : Int) := by omega
      have y1 := x1 k hlt
      have y2 := x2 k (by omega)
      obtain ⟨a, ha⟩ : ∃ a, a = l1[k] := ⟨_, rfl⟩
      obtain ⟨b, hb0⟩ : ∃ b, b = l2[k]'(by omega) := ⟨_, rfl⟩
      have hnn : b.n = a.n := by rw [hb0, ha, HN.out k hlt]
      rw [← ha] at y1
      rw [← hb0, hnn] at y2
      obtain ⟨⟨x0, x3, x4⟩, y0, y3, y4⟩ := And.intro y1 y2
      have q0 : ∀ u : Under wr, u.x.cell? ⟨g1, k * 3, none⟩ = some (.string a.n) := fun u => (u.h.cell e1).trans x0
      have q1 : ∀ u : Under wr, u.x.cell? ⟨g1, k * 3 + 1, none⟩ = some (.slice a.pa 0 a.ca) := fun u => (u.h.cell e1).trans x3
      have q2 : ∀ u : Under wr, u.x.cell? ⟨g1, k * 3 + 2, none⟩ = some (.slice a.pb 0 a.cb) := fun u => (u.h.cell e1).trans x4
      have r0 : ∀ u : Under wr, u.x.cell? ⟨g2, k * 3, none⟩ = some (.string a.n) := fun u => (u.h.cell e2).trans y0
      have r1 : ∀ u : Under wr, u.x.cell? ⟨g2, k * 3 + 1, none⟩ = some (.slice b.pa 0 b.ca) := fun u => (u.h.cell e2).trans y3
      have r2 : ∀ u : Under wr, u.x.cell? ⟨g2, k * 3 + 2, none⟩ = some (.slice b.pb 0 b.cb) := fun u => (u.h.cell e2).trans y4
      have HQ : Hid (∀ W : World, Calls _ _ _ W _) := fun W => eqColl_zero a.n a.pa b.pa a.pb b.pb a.ca b.ca a.cb b.cb W
      have hnu : Nonempty (Under wr) := ⟨⟨wr, Below.refl _ _⟩⟩
      clear x1 x2 y1 y2 ha hb0 hnn x0 x3 x4 y0 y3 y4
      go_wp2_with fail
      refine wp_region_under (by kernel_rfl) (by kernel_rfl) ?_
      repeat (go_big_quiet_step ((go_at_call 47; exact calls_under _ (HQ.out _))))
      refine wpQuiet_nil ?_
      rintro _ ⟨u, rfl⟩
      go_wp2_with fail
      go_roundw
      case rel => exact ⟨k + 1, by omega, by go_num, hbel.trans (u.h.mono hbel.size)⟩
      case measure => simp [intOf]; omega
    · have hlt2 : ¬ (k : Int) < (l1.length : Int) := by omega
      go_wp2_with fail
      go_ret
      exact ⟨rfl, hbel⟩

/-- The names that marks leave. -/
def markMixC (q : Nat) (l : List NC) (k : Nat) : List NC := (List.range l.length).zipWith (fun i t => if i < k then { t with n := Tr.mt (q + i) } else t) l
theorem markMixC_len (q : Nat) (l : List NC) (k : Nat) : (markMixC q l k).length = l.length := by unfold markMixC; simp
theorem markMixC_get (q : Nat) (l : List NC) (k i : Nat) (h : i < l.length) : (markMixC q l k)[i]'(by rw [markMixC_len]; exact h) = if i < k then { l[i] with n := Tr.mt (q + i) } else l[i] := by unfold markMixC; simp
theorem markMixC_zero (q : Nat) (l : List NC) : markMixC q l 0 = l := by
  apply List.ext_getElem (markMixC_len _ _ _)
  intro i h1 h2
  rw [markMixC_get q l 0 i h2]; simp
theorem markMixC_set (q : Nat) (l : List NC) (k : Nat) (h : k < l.length) : (markMixC q l k).set k { (markMixC q l k)[k]'(by rw [markMixC_len]; exact h) with n := Tr.mt (q + k) } = markMixC q l (k + 1) := by
  apply List.ext_getElem (by simp [markMixC_len])
  intro i h1 h2
  rw [List.getElem_set]
  have hi : i < l.length := by simpa [markMixC_len] using h2
  rw [markMixC_get q l (k + 1) i hi]
  by_cases e : k = i
  · subst e
    rw [if_pos rfl, if_pos (show k < k + 1 by omega)]
    simp [markMixC_get q l k k hi]
  · rw [if_neg e, markMixC_get q l k i hi]
    by_cases h3 : i < k
    · rw [if_pos h3, if_pos (by omega)]
    · rw [if_neg h3, if_neg (by omega)]
set_option maxRecDepth 4000 in
set_option maxHeartbeats 2000000 in
theorem markCollS_new (base : Nat) (v : Value) (l : List NC) (q : Nat) (w : World) (hown : OwnN w base v l) (h1 : 1 ≤ q) (h2 : q + l.length ≤ 17592186044416) (hl : l.length ≤ 1048576) :
    Calls Tryz.prog 29 #[v, .int .i64 q] w fun e w' => e = .returned (.int .i64 ((q + l.length : Nat) : Int)) ∧ OwnN w' base v (markMixC q l l.length) ∧ w.grownBy w' v.ownBlock := by
  rcases hown.form with ⟨rfl, rfl⟩ | ⟨g, c, rfl, hgb, hgl⟩
  · have HO0 : Hid (OwnN _ _ _ _) := hown
    clear hown
    go_enter Tryz.func29, Tryz.ntmps29
    go_wp2_with fail
    refine wp_loop_rounds 1 ?_
    rw [rounds_succ]
    go_wp2_with fail
    go_ret
    exact ⟨rfl, HO0.out, grown_refl _ _⟩
  · have HO0 : Hid (OwnN _ _ _ _) := hown
    clear hown
    go_enter Tryz.func29, Tryz.ntmps29
    go_wp2_with fail
    go_loopw [1, 5] (fun x i wr => ∃ (k E : Nat), k ≤ l.length ∧ i = .int .i64 k ∧ x = .int .i64 (E : Int) ∧ E = q + k ∧ wr.ownsRow base 56 3 (.slice (some ⟨g, 0, none⟩) l.length c) l.length (flatN (markMixC q l k)) ∧ w.grownBy wr (some g)) (fun _ i _ => l.length - (intOf i).toNat)
    case atStart => exact ⟨0, q, Nat.zero_le _, rfl, rfl, by omega, by rw [markMixC_zero]; exact HO0.out, grown_refl _ _⟩
    case round =>
      obtain ⟨k, E, hk, rfl, rfl, hE, hown, hgr⟩ := hrel
      have HB : Hid (World.grownBy _ _ _) := hgr
      have hz := hgr.size
      clear hgr HO0
      by_cases hlt : k < l.length
      · have hlt2 : (k : Int) < (l.length : Int) := by omega
        have hm := markMixC_len q l k
        have HO : Hid (World.ownsRow _ _ _ _ _ _ _) := hown
        have hglr : g < wr.heap.size := (hown.lt g rfl).2
        have he : (flatN (markMixC q l k)).set (k * 3) (.string (Tr.mt E)) = flatN (markMixC q l (k + 1)) := by
          rw [flatN_set _ _ _ (by omega), hE, markMixC_set q l k hlt]
        have hgt := flatN_get (markMixC q l (k + 1)) k (by rw [markMixC_len]; exact hlt)
        rw [markMixC_get q l (k + 1) k hlt, if_pos (by omega)] at hgt
        have HE : Hid _ := he
        have HG : Hid _ := hgt
        have HEQ : Hid (E = q + k) := hE
        have hEb : E + 1 ≤ 17592186044416 := by omega
        have hE1 : 1 ≤ E := by omega
        clear hown he hE hgt
        go_wp2_with fail
        refine (Tr.markText_any E (by omega) (by omega) _).mono ?_
        rintro e w2 ⟨rfl, hb2⟩
        have hown2 := owns_below HO.out hb2
        obtain ⟨z0, y0⟩ := own_there hown2 (k * 3) (by omega)
        have f0 := World.ownsRow.frozenAt hown2 (k * 3)
        have hst := (World.ownsRow.stored hown2 (k * 3) (.string (Tr.mt E))).1
        rw [HE.out] at hst
        have y1 := owns_cell hst _ _ HG.out.2.1
        have y2 := owns_cell hst _ _ HG.out.2.2
        have HS : Hid (World.ownsRow _ _ _ _ _ _ _) := hst
        have HB2 : Hid (World.grownBy _ _ _) := grown_trans HB.out (grown_below hb2)
        have hz2 := hb2.size
        have HC : Hid (∀ W : World, Calls _ _ _ W _) := fun W => markChainS_zero l[k].pa l[k].ca ((E : Int) + 1) W
        have HD : Hid (∀ W : World, Calls _ _ _ W _) := fun W => markDefS_zero l[k].pb l[k].cb ((E : Int) + 1) W
        have hgl2 : g < w2.heap.size := by omega
        clear hst hown2 hb2 hm HO
        go_wp2_with fail
        refine (HC.out _).mono ?_
        rintro e w3 ⟨rfl, rfl⟩
        go_wp2_with fail
        refine (HD.out _).mono ?_
        rintro e w4 ⟨rfl, rfl⟩
        go_wp2_with fail
        go_roundw
        case rel => exact ⟨k + 1, E + 1, by omega, by go_num, by go_num, by have := HEQ.out; omega, HS.out, grown_trans HB2.out grown_set⟩
        case measure => simp [intOf]; omega
      · obtain rfl : k = l.length := by omega
        have HO : Hid (World.ownsRow _ _ _ _ _ _ _) := hown
        clear hown
        subst hE
        go_wp2_with fail
        go_ret
        exact ⟨rfl, by unfold OwnN; rw [markMixC_len]; exact HO.out, HB.out⟩

set_option maxRecDepth 4000 in
set_option maxHeartbeats 2000000 in
theorem heldCollS_new (a : Option Addr) (c : Nat) (l : List NC) (q : Nat) (w : World) (hr : InN3 w a (markMixC q l l.length)) (h1 : 1 ≤ q) (h2 : q + l.length ≤ 17592186044416) (hl : l.length ≤ 1048576) :
    Calls Tryz.prog 35 #[.slice a l.length c, .int .i64 q] w fun e w' => e = .returned (.int .i64 ((q + l.length : Nat) : Int)) ∧ Below w.heap.size w w' := by
  have HR : Hid (InN3 _ _ _) := hr
  clear hr
  go_enter Tryz.func35, Tryz.ntmps35
  go_wp2_with fail
  go_loopw [1, 5] (fun x i wr => ∃ k E : Nat, k ≤ l.length ∧ i = .int .i64 k ∧ x = .int .i64 (E : Int) ∧ E = q + k ∧ Below w.heap.size w wr) (fun _ i _ => l.length - (intOf i).toNat)
  case atStart => exact ⟨0, q, Nat.zero_le _, rfl, rfl, by omega, Below.refl _ _⟩
  case round =>
    obtain ⟨k, E, hk, rfl, rfl, hE, hbel⟩ := hrel
    have hz := hbel.size
    by_cases hlt : k < l.length
    · rcases HR.out.step hbel with h0 | ⟨g, rfl, e1, x⟩
      · rw [markMixC_len] at h0; omega
      have x' := x k (by rw [markMixC_len]; exact hlt)
      rw [markMixC_get q l l.length k hlt, if_pos hlt] at x'
      obtain ⟨x0, x1, x2⟩ := x'
      have hk1 : (k : Int) < (l.length : Int) := by omega
      have hE2 : E + 1 ≤ 17592186044416 := by omega
      have HM0 := fun W : World => Tr.markText_any E (by omega) (by omega) W
      obtain ⟨T, hT⟩ : ∃ T, T = Tr.mt E := ⟨_, rfl⟩
      dsimp only at x0 x1 x2
      rw [← hE, ← hT] at x0
      rw [← hT] at HM0
      have HM : Hid (∀ W : World, Calls _ _ _ W _) := HM0
      have HEQ : Hid (E = q + k) := hE
      have q0 : ∀ u : Under wr, u.x.cell? ⟨g, k * 3, none⟩ = some (.string T) := fun u => (u.h.cell e1).trans x0
      have q1 : ∀ u : Under wr, u.x.cell? ⟨g, k * 3 + 1, none⟩ = some (.slice l[k].pa 0 l[k].ca) := fun u => (u.h.cell e1).trans x1
      have q2 : ∀ u : Under wr, u.x.cell? ⟨g, k * 3 + 2, none⟩ = some (.slice l[k].pb 0 l[k].cb) := fun u => (u.h.cell e1).trans x2
      have HC : Hid (∀ W : World, Calls _ _ _ W _) := fun W => heldChainS_zero l[k].pa l[k].ca ((E : Int) + 1) W
      have HD : Hid (∀ W : World, Calls _ _ _ W _) := fun W => heldDefS_zero l[k].pb l[k].cb ((E : Int) + 1) W
      have hEn : ¬ ((E : Int) + 1 < 0) := by omega
      clear HM0 hT x x0 x1 x2 hE
      have hnu : Nonempty (Under wr) := ⟨⟨wr, Below.refl _ _⟩⟩
      go_wp2_with fail
      refine wp_region_under (by kernel_rfl) (by kernel_rfl) ?_
      repeat (go_big_quiet_step ((go_at_call 51; exact calls_under _ (HM.out _))))
      refine wpQuiet_nil ?_
      rintro _ ⟨u, rfl⟩
      have s1 := q1 u
      have s2 := q2 u
      go_wp2_with fail
      refine (HC.out _).mono ?_
      rintro e w3 ⟨rfl, rfl⟩
      go_wp2_with fail
      refine (HD.out _).mono ?_
      rintro e w4 ⟨rfl, rfl⟩
      go_wp2_with fail
      go_roundw
      case rel => exact ⟨k + 1, E + 1, by omega, by go_num, by go_num, by have := HEQ.out; omega, hbel.trans (u.h.mono hbel.size)⟩
      case measure => simp [intOf]; omega
    · obtain rfl : k = l.length := by omega
      subst hE
      go_wp2_with fail
      go_ret
      exact ⟨rfl, hbel⟩

end Go.Proofs.YtlefpbgnkebmdaaGreat.Ns
