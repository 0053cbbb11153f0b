/- Rows of texts of an answer's own: what the laws' marks on them answer. -/
import Derived.Test.YtlefpbgnkebmdaaGreatTrN
namespace Go.Proofs.YtlefpbgnkebmdaaGreat.Tr
open Go.RowKit
set_option linter.unusedVariables false

theorem infoStr : (Tryz.prog.info? 9).map (fun i => (i.zero, i.size, i.bytes)) = some (some (.string em), 1, 16) := by kernel_rfl
def strV (l : List ByteArray) : List Value := l.map Value.string
theorem strV_len (l : List ByteArray) : (strV l).length = l.length := by unfold strV; simp
theorem strV_get (l : List ByteArray) (i : Nat) (h : i < l.length) : (strV l)[i]? = some (.string l[i]) := by unfold strV; rw [List.getElem?_map, List.getElem?_eq_getElem h]; rfl
theorem strV_set (l : List ByteArray) (k : Nat) (t : ByteArray) : (strV l).set k (.string t) = strV (l.set k t) := by unfold strV; rw [List.map_set]
theorem strV_app (a b : List ByteArray) : strV (a ++ b) = strV a ++ strV b := by unfold strV; simp
def OwnS (w : World) (base : Nat) (v : Value) (l : List ByteArray) : Prop := w.ownsRow base 9 1 v l.length (strV l)
/-- Texts in a row. -/
def InT1 (w : World) (a : Option Addr) (l : List ByteArray) : Prop := l.length = 0 ∨ ∃ g, a = some ⟨g, 0, none⟩ ∧ g < w.heap.size ∧ ∀ i (h : i < l.length), w.cell? ⟨g, i, none⟩ = some (.string l[i])
theorem InT1.step {w w' : World} {a : Option Addr} {l : List ByteArray} (h : InT1 w a l) (hb : Below w.heap.size w w') : InT1 w' a l := by
  rcases h with h | ⟨g, ha, hl, hc⟩
  · exact .inl h
  · exact .inr ⟨g, ha, Nat.lt_of_lt_of_le hl hb.size, fun i hi => (hb.cell hl).trans (hc i hi)⟩
theorem OwnS.form {w : World} {base : Nat} {v : Value} {l : List ByteArray} (h : OwnS w base v l) : (v = .slice none 0 0 ∧ l = []) ∨ ∃ g cap, v = .slice (some ⟨g, 0, none⟩) l.length cap ∧ base ≤ g ∧ g < w.heap.size := by
  have hlt := World.ownsRow.lt h
  obtain ⟨h1, h2⟩ := h
  rcases h2 with ⟨hv, h0⟩ | ⟨g, cap, cur, hv, hg, hh, r⟩
  · exact .inl ⟨hv, List.length_eq_zero_iff.1 h0⟩
  · exact .inr ⟨g, cap, hv, hg, (hlt g (by rw [hv]; rfl)).2⟩
theorem OwnS.in1 {w : World} {base : Nat} {v : Value} {l : List ByteArray} (h : OwnS w base v l) : ∃ p cap, v = .slice p l.length cap ∧ InT1 w p l := by
  rcases h.form with ⟨rfl, rfl⟩ | ⟨g, cap, rfl, _, hg⟩
  · exact ⟨none, 0, rfl, .inl rfl⟩
  · exact ⟨_, cap, rfl, .inr ⟨g, rfl, hg, fun i hi => owns_cell h i _ (strV_get l i hi)⟩⟩
def marksS (q n : Nat) : List ByteArray := (List.range n).map fun i => mt (q + i)
theorem marksS_len (q n : Nat) : (marksS q n).length = n := by unfold marksS; simp
theorem marksS_get (q n i : Nat) (h : i < (marksS q n).length) : (marksS q n)[i] = mt (q + i) := by simp [marksS]
def markMixS (q : Nat) (l : List ByteArray) (k : Nat) : List ByteArray := marksS q k ++ l.drop k
theorem markMixS_len (q : Nat) (l : List ByteArray) (k : Nat) (h : k ≤ l.length) : (markMixS q l k).length = l.length := by unfold markMixS; rw [List.length_append, marksS_len, List.length_drop]; omega
theorem markMixS_zero (q : Nat) (l : List ByteArray) : markMixS q l 0 = l := by unfold markMixS marksS; simp
theorem markMixS_full (q : Nat) (l : List ByteArray) : markMixS q l l.length = marksS q l.length := by unfold markMixS; simp
theorem markMixS_set (q : Nat) (l : List ByteArray) (k : Nat) (h : k < l.length) : (markMixS q l k).set k (mt (q + k)) = markMixS q l (k + 1) := by
  unfold markMixS
  rw [List.set_append_right _ _ (by rw [marksS_len]; omega), marksS_len, Nat.sub_self]
  have e : marksS q (k + 1) = marksS q k ++ [mt (q + k)] := by unfold marksS; rw [List.range_succ, List.map_append]; rfl
  rw [e, List.append_assoc]
  congr 1
  rw [List.drop_eq_getElem_cons h]; rfl

set_option maxRecDepth 4000 in
set_option maxHeartbeats 2000000 in
theorem markStringS_any (base : Nat) (v : Value) (l : List ByteArray) (q : Nat) (w : World) (hown : OwnS w base v l) (h1 : 1 ≤ q) (h2 : q + l.length ≤ 17592186044416) (hl : l.length ≤ 1048576) :
    Calls Tryz.prog 57 #[v, .int .i64 q] w fun e w' => e = .returned (.int .i64 ((q + l.length : Nat) : Int)) ∧ OwnS w' base v (marksS q l.length) ∧ w.grownBy w' v.ownBlock := by
  rcases hown.form with ⟨rfl, rfl⟩ | ⟨g, c, rfl, hgb, hgl⟩
  · have HO0 : Hid (OwnS _ _ _ _) := hown
    clear hown
    go_enter Tryz.func57, Tryz.ntmps57
    go_wp2_with fail
    refine wp_loop_rounds 1 ?_
    rw [rounds_succ]
    go_wp2_with fail
    go_ret
    exact ⟨rfl, HO0.out, grown_refl _ _⟩
  · have HO0 : Hid (OwnS _ _ _ _) := hown
    clear hown
    go_enter Tryz.func57, Tryz.ntmps57
    go_wp2_with fail
    go_loopw [1, 5] (fun x i wr => ∃ k : Nat, k ≤ l.length ∧ i = .int .i64 k ∧ x = .int .i64 ((q + k : Nat) : Int) ∧ wr.ownsRow base 9 1 (.slice (some ⟨g, 0, none⟩) l.length c) l.length (strV (markMixS q l k)) ∧ w.grownBy wr (some g)) (fun _ i _ => l.length - (intOf i).toNat)
    case atStart => exact ⟨0, Nat.zero_le _, rfl, rfl, by rw [markMixS_zero]; exact HO0.out, grown_refl _ _⟩
    case round =>
      obtain ⟨k, hk, rfl, rfl, hown, hgr⟩ := hrel
      have HB : Hid (World.grownBy _ _ _) := hgr
      have hz := hgr.size
      clear hgr HO0
      by_cases hlt : k < l.length
      · have hlt2 : (k : Int) < (l.length : Int) := by omega
        have hm := markMixS_len q l k hk
        have HO : Hid (World.ownsRow _ _ _ _ _ _ _) := hown
        have hglr : g < wr.heap.size := (hown.lt g rfl).2
        clear hown
        go_wp2_with fail
        refine (markText_any (q + k) (by omega) (by omega) _).mono ?_
        rintro e w2 ⟨rfl, hb2⟩
        have hown2 := owns_below HO.out hb2
        obtain ⟨z0, y0⟩ := own_there hown2 k (by omega)
        have f0 := World.ownsRow.frozenAt hown2 k
        have hst := (World.ownsRow.stored hown2 k (.string (mt (q + k)))).1
        have he : (strV (markMixS q l k)).set k (.string (mt (q + k))) = strV (markMixS q l (k + 1)) := by
          rw [strV_set, markMixS_set q l k hlt]
        rw [he] at hst
        have HS : Hid (World.ownsRow _ _ _ _ _ _ _) := hst
        have HB2 : Hid (World.grownBy _ _ _) := grown_trans HB.out (grown_below hb2)
        have hz2 := hb2.size
        clear hst he hown2 hb2 hm HO
        go_wp2_with fail
        go_roundw
        case rel => exact ⟨k + 1, by omega, by go_num, by go_num, HS.out, grown_trans HB2.out grown_set⟩
        case measure => simp [intOf]; omega
      · obtain rfl : k = l.length := by omega
        rw [markMixS_full] at hown
        have HO : Hid (World.ownsRow _ _ _ _ _ _ _) := hown
        clear hown
        go_wp2_with fail
        go_ret
        exact ⟨rfl, by unfold OwnS; rw [marksS_len]; exact HO.out, HB.out⟩

set_option maxRecDepth 4000 in
set_option maxHeartbeats 2000000 in
theorem heldStringS_any (a : Option Addr) (c n : Nat) (q : Nat) (w : World) (hr : InT1 w a (marksS q n)) (h1 : 1 ≤ q) (h2 : q + n ≤ 17592186044416) (hl : n ≤ 1048576) :
    Calls Tryz.prog 65 #[.slice a n c, .int .i64 q] w fun e w' => e = .returned (.int .i64 ((q + n : Nat) : Int)) ∧ Below w.heap.size w w' := by
  have HR : Hid (InT1 _ _ _) := hr
  clear hr
  go_enter Tryz.func65, Tryz.ntmps65
  go_wp2_with fail
  go_loopw [1, 5] (fun x i wr => ∃ k : Nat, k ≤ n ∧ i = .int .i64 k ∧ x = .int .i64 ((q + k : Nat) : Int) ∧ Below w.heap.size w wr) (fun _ i _ => n - (intOf i).toNat)
  case atStart => exact ⟨0, Nat.zero_le _, rfl, rfl, Below.refl _ _⟩
  case round =>
    obtain ⟨k, hk, rfl, rfl, hbel⟩ := hrel
    have hz := hbel.size
    by_cases hlt : k < n
    · rcases HR.out.step hbel with h0 | ⟨g, rfl, l1, x⟩
      · rw [marksS_len] at h0; omega
      have x0 := x k (by rw [marksS_len]; exact hlt)
      simp only [marksS_get] at x0
      have hk1 : (k : Int) < (n : Int) := by omega
      have HM0 := fun W : World => markText_any (q + k) (by omega) (by omega) W
      obtain ⟨T, hT⟩ : ∃ T, T = mt (q + k) := ⟨_, rfl⟩
      rw [← hT] at x0 HM0
      have HM : Hid (∀ W : World, Calls _ _ _ W _) := HM0
      have q0 : ∀ u : Under wr, u.x.cell? ⟨g, k, none⟩ = some (.string T) := fun u => (u.h.cell l1).trans x0
      clear HM0 hT x x0
      have hnu : Nonempty (Under wr) := ⟨⟨wr, Below.refl _ _⟩⟩
      go_wp2_with fail
      refine wp_region_under (by kernel_rfl) (by kernel_rfl) ?_
      repeat (go_big_quiet_step ((go_at_call 51; exact calls_under _ (HM.out _))))
      refine wpQuiet_nil ?_
      rintro _ ⟨u, rfl⟩
      go_wp2_with fail
      go_roundw
      case rel => exact ⟨k + 1, by omega, by go_num, by go_num, hbel.trans (u.h.mono hbel.size)⟩
      case measure => simp [intOf]; omega
    · obtain rfl : k = n := by omega
      go_wp2_with fail
      go_ret
      exact ⟨rfl, hbel⟩
set_option maxRecDepth 4000 in
set_option maxHeartbeats 1000000 in
theorem eqStrings_any (p1 p2 : Option Addr) (c1 c2 : Nat) (l : List ByteArray) (w : World) (h1 : InT1 w p1 l) (h2 : InT1 w p2 l) (hlen : l.length ≤ 1048576) :
    Calls Tryz.prog 98 #[.slice p1 l.length c1, .slice p2 l.length c2] w fun e w' => e = .returned (.bool true) ∧ Below w.heap.size w w' := by
  have H1 : Hid (InT1 _ _ _) := h1
  have H2 : Hid (InT1 _ _ _) := h2
  clear h1 h2
  go_enter Tryz.func98, Tryz.ntmps98
  go_wp2_with fail
  go_loopw [5] (fun i wr => ∃ k : Nat, k ≤ l.length ∧ i = .int .i64 k ∧ Below w.heap.size w wr) (fun i _ => l.length - (intOf i).toNat)
  case atStart => exact ⟨0, Nat.zero_le _, rfl, Below.refl _ _⟩
  case round =>
    obtain ⟨k, hk, rfl, hbel⟩ := hrel
    by_cases hlt : k < l.length
    · rcases H1.out.step hbel with h0 | ⟨g1, rfl, l1, x1⟩
      · omega
      rcases H2.out.step hbel with h0 | ⟨g2, rfl, l2, x2⟩
      · omega
      have hk1 : (k : Int) < (l.length : Int) := by omega
      obtain ⟨e, he⟩ : ∃ e, e = l[k] := ⟨_, rfl⟩
      have q0 : ∀ u : Under wr, u.x.cell? ⟨g1, k, none⟩ = some (.string e) := fun u => (u.h.cell l1).trans (by rw [he]; exact x1 k hlt)
      have r0 : ∀ u : Under wr, u.x.cell? ⟨g2, k, none⟩ = some (.string e) := fun u => (u.h.cell l2).trans (by rw [he]; exact x2 k hlt)
      have hnu : Nonempty (Under wr) := ⟨⟨wr, Below.refl _ _⟩⟩
      clear x1 x2 he
      go_wp2_with fail
      refine wp_region_under (by kernel_rfl) (by kernel_rfl) ?_
      repeat (go_big_quiet_step (fail))
      refine wpQuiet_nil ?_
      rintro _ ⟨u, rfl⟩
      go_wp2_with fail
      go_roundw
      case rel => exact ⟨k + 1, by omega, by go_num, hbel.trans (u.h.mono hbel.size)⟩
      case measure => simp [intOf]; omega
    · have hlt2 : ¬ (k : Int) < (l.length : Int) := by omega
      go_wp2_with fail
      go_ret
      exact ⟨rfl, hbel⟩
end Go.Proofs.YtlefpbgnkebmdaaGreat.Tr
