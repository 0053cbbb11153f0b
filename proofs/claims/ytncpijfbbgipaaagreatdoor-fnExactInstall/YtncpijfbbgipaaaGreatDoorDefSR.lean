/- Whether a definition of an index is right: the specification's answer, and the laws' own helpers on definitions. -/
import Derived.Test.YtncpijfbbgipaaaGreatDoorDefIR
namespace Go.Proofs.YtncpijfbbgipaaaGreatDoor.Tr
open Go.RowKit
set_option linter.unusedVariables false

theorem diffB_one (a : Prt) : diffB [] [a] = true := rfl
theorem diffB_two (a b : Prt) : diffB [] [a, b] = !(a.path.toList == b.path.toList) := by
  show (!([] : List Prt).any (alikeP a.path) && (!([a].any (alikeP b.path)) && true)) = _
  simp [alikeP]
theorem diff_cases {l : List Prt} {R : Bool} (h : R = diffB [] l) (h1 : 1 ≤ l.length) (h2 : l.length ≤ 2) : (l.length = 1 ∧ R = true) ∨ ∃ (h0 : 0 < l.length) (h1 : 1 < l.length), l.length = 2 ∧ R = !(l[0].path.toList == l[1].path.toList) := by
  match l, h1, h2 with
  | [a], _, _ => exact .inl ⟨rfl, h.trans (diffB_one a)⟩
  | [a, b], _, _ => exact .inr ⟨by simp, by simp, rfl, h.trans (diffB_two a b)⟩
set_option maxRecDepth 4000 in
set_option maxHeartbeats 2000000 in
theorem specDef_any (n : ByteArray) (p : Option Addr) (cap : Nat) (l : List Prt) (w : World) (hr : RowD w p l) (hn : n.size ≤ 1048576) (hl : l.length ≤ 1048576) (hs : ∀ v ∈ l, szPt v) :
    Calls Tryz.prog 44 #[.agg #[.string n, .slice p l.length cap]] w fun e w' => e = .returned (.bool (defB n l)) ∧ Below w.heap.size w w' := by
  have X0 := BoxD.start w n (.slice p l.length cap) 86
  have HN : Hid (∀ W : World, Calls _ _ _ W _) := fun W => l01Name_any n W (by unfold maxLen; omega)
  have HR : Hid (RowD _ _ _) := hr
  have HS : Hid _ := hs
  obtain ⟨R, hR⟩ : ∃ R, R = defB n l := ⟨_, rfl⟩
  rw [← hR]
  unfold defB at hR
  clear hr hs
  cases hS : shortB n
  · rw [hS] at HN hR
    rw [Bool.false_and] at hR
    subst hR
    clear hS
    go_enter Tryz.func44, Tryz.ntmps44
    go_wp2_with fail
    refine (HN.out _).mono ?_
    rintro e w1 ⟨rfl, rfl⟩
    have hbw := X0.bel
    go_wp2_with fail
    go_ret
    exact ⟨rfl, hbw⟩
  · rw [hS] at HN hR
    rw [Bool.true_and] at hR
    have HI : Hid (∀ W : World, Calls _ _ _ W _) := fun W => l01In_any (l.length : Int) 1 2 W
    have hde : decide ((1 : Int) ≤ (l.length : Int) ∧ (l.length : Int) ≤ 2) = decide (1 ≤ l.length ∧ l.length ≤ 2) := by rw [decide_eq_decide]; omega
    rw [hde] at HI
    clear hde
    by_cases h12 : 1 ≤ l.length ∧ l.length ≤ 2
    · rw [decide_eq_true h12] at HI
      rw [decide_eq_true h12, Bool.true_and] at hR
      have HRR : Hid (R = (l.all okPt && diffB [] l)) := hR
      clear hR hS
      have hl1 : 1 ≤ l.length := h12.1
      have hl2 : l.length ≤ 2 := h12.2
      clear h12
      go_enter Tryz.func44, Tryz.ntmps44
      go_wp2_with fail
      refine (HN.out _).mono ?_
      rintro e w1 ⟨rfl, rfl⟩
      go_wp2_with fail
      refine (HI.out _).mono ?_
      rintro e w2 ⟨rfl, rfl⟩
      go_wp2_with fail
      generalize w.alloc (.cells #[.string n, .slice p l.length cap] 86) = W0 at X0 ⊢
      go_loopw [3] (fun i wr => ∃ k : Nat, k ≤ l.length ∧ i = .int .i64 k ∧ (∀ u ∈ l.take k, okPt u = true) ∧ Below W0.heap.size W0 wr) (fun i _ => l.length - (intOf i).toNat)
      case atStart => exact ⟨0, Nat.zero_le _, rfl, fun u hu => by simp at hu, Below.refl _ _⟩
      case round =>
        obtain ⟨k, hk, rfl, hall, hbel⟩ := hrel
        have HA : Hid _ := hall
        have X := X0.step hbel
        have c1 := X.c1
        have hlt0 := X.lt
        clear hall
        by_cases hlt : k < l.length
        · obtain ⟨g, rfl, RD⟩ := (HR.out.next X.bel).resolve_left (fun h0 => by subst h0; simp at hlt)
          obtain ⟨x0, x1⟩ := RD.cells k hlt
          have hlt2 : (k : Int) < (l.length : Int) := by omega
          have HK0 : ∀ W : World, Calls Tryz.prog 73 #[.string l[k].path] W fun e w' => e = .returned (.bool (okPt l[k])) ∧ Below W.heap.size W w' := fun W => specPath_any l[k].path W (HS.out l[k] (List.getElem_mem _))
          have hgl := RD.lt
          cases hP : okPt l[k]
          · rw [hP] at HK0
            have HK : Hid _ := HK0
            have hRf : R = false := by
              rw [HRR.out]
              have hal : l.all okPt = false := by
                rw [Bool.eq_false_iff]; intro hh
                have := List.all_eq_true.mp hh l[k] (List.getElem_mem _)
                rw [hP] at this; cases this
              rw [hal]; rfl
            have HF : Hid (R = false) := hRf
            clear RD hP HK0 hRf
            go_wp2_with fail
            refine (HK.out _).mono ?_
            rintro e w3 ⟨rfl, hb⟩
            have hbw := (X.step hb).bel
            clear hb
            go_wp2_with fail
            go_ret
            exact ⟨ret_bool' HF.out.symm, hbw⟩
          · rw [hP] at HK0
            have HK : Hid _ := HK0
            have HPK : Hid _ := hP
            clear RD hP HK0
            go_wp2_with fail
            refine (HK.out _).mono ?_
            rintro e w3 ⟨rfl, hb⟩
            have hbw := hbel.trans (hb.mono hbel.size)
            clear hb
            go_wp2_with fail
            go_roundw
            case rel =>
              refine ⟨k + 1, by omega, by go_num, ?_, hbw⟩
              intro u hu
              rw [List.take_succ_eq_append_getElem hlt] at hu
              rcases List.mem_append.mp hu with h | h
              · exact HA.out u h
              · simp at h; subst h; exact HPK.out
            case measure => simp [intOf]; omega
        · have hlt2 : ¬ (k : Int) < (l.length : Int) := by omega
          have hal : l.all okPt = true := List.all_eq_true.mpr fun u hu => HA.out u (by rw [List.take_of_length_le (by omega)]; exact hu)
          have hRd : R = diffB [] l := by rw [HRR.out, hal, Bool.true_and]
          have HRd : Hid (R = diffB [] l) := hRd
          obtain ⟨g, rfl, RD⟩ := (HR.out.next X.bel).resolve_left (fun h0 => by rw [h0] at hl1; simp at hl1)
          have hgl := RD.lt
          have hbw := X.bel
          clear hal hRd
          have hR2 : (l.length = 1 ∧ R = true) ∨ ∃ (h0 : 0 < l.length) (h1 : 1 < l.length), l.length = 2 ∧ R = !(l[0].path.toList == l[1].path.toList) := diff_cases HRd.out hl1 hl2
          clear HRd hl1 hl2
          rcases hR2 with ⟨h1, hRt⟩ | ⟨q0, q1, h2, hRt⟩
          · have h1' : (l.length : Int) = 1 := by omega
            have HF : Hid (R = true) := hRt
            clear hRt RD X h1
            go_wp2_with fail
            go_quiet (fail)
            go_wp2_with fail
            go_ret
            exact ⟨ret_bool' HF.out.symm, by (repeat (first | (with_reducible exact Below.refl _ _) | (with_reducible assumption) | (with_reducible apply below_drewN) | (with_reducible apply Below.drew) | ((with_reducible refine Below.setCell ?_ ?_ _); rotate_left; focus (first | (simp; done) | (simp; omega) | omega)) | ((with_reducible refine Below.alloc ?_ ?_ _); rotate_left; focus (first | (simp; done) | (simp; omega) | omega))))⟩
          · have h2' : (l.length : Int) = 2 := by omega
            have h21 : ((l.length : Int) == 1) = false := beq_eq_false_iff_ne.mpr (by omega)
            have h23 : (1 : Int) < (l.length : Int) := by omega
            have x0 := (RD.cells 0 q0).1
            have x1 := (RD.cells 1 q1).1
            obtain ⟨a, ha⟩ : ∃ a, a = l[0].path := ⟨_, rfl⟩
            obtain ⟨b, hb⟩ : ∃ b, b = l[1].path := ⟨_, rfl⟩
            rw [← ha] at x0 hRt
            rw [← hb] at x1 hRt
            simp only [Nat.zero_mul, Nat.one_mul] at x0 x1
            have HF : Hid (R = !(a.toList == b.toList)) := hRt
            clear hRt RD X h2 ha hb q1 h2'
            go_wp2_with fail
            go_quiet (fail)
            go_wp2_with fail
            go_ret
            exact ⟨ret_bool' HF.out.symm, by (repeat (first | (with_reducible exact Below.refl _ _) | (with_reducible assumption) | (with_reducible apply below_drewN) | (with_reducible apply Below.drew) | ((with_reducible refine Below.setCell ?_ ?_ _); rotate_left; focus (first | (simp; done) | (simp; omega) | omega)) | ((with_reducible refine Below.alloc ?_ ?_ _); rotate_left; focus (first | (simp; done) | (simp; omega) | omega))))⟩
    · rw [decide_eq_false h12] at HI
      rw [decide_eq_false h12, Bool.false_and] at hR
      subst hR
      have hbw := X0.bel
      clear hS h12
      go_enter Tryz.func44, Tryz.ntmps44
      go_wp2_with fail
      refine (HN.out _).mono ?_
      rintro e w1 ⟨rfl, rfl⟩
      go_wp2_with fail
      refine (HI.out _).mono ?_
      rintro e w2 ⟨rfl, rfl⟩
      go_wp2_with fail
      go_ret
      exact ⟨rfl, hbw⟩

set_option maxRecDepth 4000 in
set_option maxHeartbeats 1000000 in
theorem szDef_any (n : ByteArray) (a : Option Addr) (cap : Nat) (l : List Prt) (w : World) (hin : InD w a l) (hn : n.size ≤ maxLen) (hl : l.length ≤ maxLen) (hs : ∀ v ∈ l, maxPt v) :
    Calls Tryz.prog 42 #[.agg #[.string n, .slice a l.length cap], .int .i64 1048576] w fun e w' => (∃ r : Int, e = .returned (.int .i64 r) ∧ (r < 0 ∨ (0 ≤ r ∧ n.size ≤ 1048576 ∧ l.length ≤ 1048576 ∧ ∀ v ∈ l, szPt v))) ∧ Below w.heap.size w w' := by
  unfold maxLen at hn
  have X0 := BoxD.start w n (.slice a l.length cap) 81
  have hbw0 := X0.bel
  by_cases hbig : (1048576 : Int) < n.size
  · have hneg : (1048576 : Int) - (n.size : Int) < 0 := by omega
    clear hin hs
    go_enter Tryz.func42, Tryz.ntmps42
    go_wp2_with fail
    go_ret
    exact ⟨⟨-1, rfl, .inl (by omega)⟩, hbw0⟩
  · have hneg : ¬ ((1048576 : Int) - (n.size : Int) < 0) := by omega
    have HC : Hid (∀ W : World, Below w.heap.size w W → Calls _ _ _ W _) := fun W hW => szPartS_any a cap l (1048576 - (n.size : Int)) W (hin.step hW) hl hs (by omega) (by omega)
    clear hin hs
    go_enter Tryz.func42, Tryz.ntmps42
    go_wp2_with fail
    refine (HC.out _ X0.bel).mono ?_
    rintro e w1 ⟨⟨r, rfl, hr⟩, hb⟩
    have hbw := (X0.step hb).bel
    clear hb HC
    rcases hr with hneg2 | ⟨hr0, hr1, hr2, hr3⟩
    · go_wp2_with fail
      go_ret
      exact ⟨⟨-1, rfl, .inl (by omega)⟩, hbw⟩
    · have hnn : ¬ r < 0 := by omega
      have HS : Hid (∀ v ∈ l, szPt v) := hr3
      clear hr3
      go_wp2_with fail
      go_ret
      exact ⟨⟨r, rfl, .inr ⟨hr0, by omega, hr2, HS.out⟩⟩, hbw⟩
set_option maxRecDepth 4000 in
set_option maxHeartbeats 1000000 in
theorem toDef_any (n : ByteArray) (a : Option Addr) (cap : Nat) (l : List Prt) (w : World) (hin : InD w a l) (hlen : l.length ≤ 1048576) :
    Calls Tryz.prog 48 #[.agg #[.string n, .slice a l.length cap]] w fun e w' => (∃ g, e = .returned (.agg #[.string n, .slice (some ⟨g, 0, none⟩) l.length l.length]) ∧ OwnD w' w.heap.size (.slice (some ⟨g, 0, none⟩) l.length l.length) l) ∧ Below w.heap.size w w' := by
  have hb0 : Below w.heap.size w (((w.alloc (.cells #[.string n, .slice a l.length cap] 81)).alloc (.cells #[.string em, .slice none 0 0] 86)).alloc (.cells #[.string n, .slice none 0 0] 86)) := (((Below.refl _ _).alloc (Nat.le_refl _) _).alloc (by simp) _).alloc (by simp; omega) _
  have HC : Hid (Calls _ _ _ _ _) := toPartS_any a cap l _ (hin.step hb0) hlen
  clear hin
  go_enter Tryz.func48, Tryz.ntmps48
  go_wp2_with fail
  refine HC.out.mono ?_
  rintro e w1 ⟨⟨g, rfl, hR⟩, hb⟩
  obtain ⟨hc, hf⟩ := bcell hb
  have hz : w.heap.size + 2 < w1.heap.size := by have := hb.size; simp at this; omega
  have hbw : Below w.heap.size w w1 := hb0.trans (hb.mono (by simp; omega))
  have hg : w.heap.size + 3 ≤ g := by have := (World.ownsRow.lt hR g rfl).1; simp at this; omega
  have HR : Hid (OwnD _ _ _ _) := hR
  clear hb HC hR hb0
  go_wp2_with fail
  refine bodyPost_ret (v := .agg #[.string n, .slice (some ⟨g, 0, none⟩) l.length l.length]) (by simp [results, Tryz.results48, go_sem, *]) rfl ⟨⟨g, rfl, ?_⟩, ?_⟩
  · have hne : ∀ m, m < w.heap.size + 3 → (Value.slice (some ⟨g, 0, none⟩) l.length l.length).ownBlock = none ∨ (Value.slice (some ⟨g, 0, none⟩) l.length l.length).ownBlock ≠ some m := fun m hm => .inr (fun e => by injection e with e; simp at e; omega)
    exact owns_mono (((World.ownsRow.kept HR.out grown_set (hne _ (by omega))).kept grown_set (hne _ (by omega))).kept grown_set (hne _ (by omega))) (by simp; omega)
  · (repeat (first | (with_reducible exact Below.refl _ _) | (with_reducible assumption) | (with_reducible apply below_drewN) | (with_reducible apply Below.drew) | ((with_reducible refine Below.setCell ?_ ?_ _); rotate_left; focus (first | (simp; done) | (simp; omega) | omega)) | ((with_reducible refine Below.alloc ?_ ?_ _); rotate_left; focus (first | (simp; done) | (simp; omega) | omega))))
set_option maxRecDepth 4000 in
set_option maxHeartbeats 1000000 in
theorem eqDef_same (n : ByteArray) (p1 p2 : Option Addr) (c1 c2 : Nat) (l : List Prt) (w : World) (h1 : InD w p1 l) (h2 : InD w p2 l) (hlen : l.length ≤ 1048576) :
    Calls Tryz.prog 64 #[.agg #[.string n, .slice p1 l.length c1], .agg #[.string n, .slice p2 l.length c2]] w fun e w' => e = .returned (.bool true) ∧ Below w.heap.size w w' := by
  have hb0 : Below w.heap.size w ((w.alloc (.cells #[.string n, .slice p1 l.length c1] 86)).alloc (.cells #[.string n, .slice p2 l.length c2] 86)) := ((Below.refl _ _).alloc (Nat.le_refl _) _).alloc (by simp) _
  have HC : Hid (Calls _ _ _ _ _) := eqPartS_same p1 p2 c1 c2 l _ (h1.step hb0) (h2.step hb0) hlen
  clear h1 h2
  go_enter Tryz.func64, Tryz.ntmps64
  go_wp2_with fail
  refine HC.out.mono ?_
  rintro e w1 ⟨rfl, hb⟩
  have hbw := hb0.trans (hb.mono hb0.size)
  clear hb HC
  go_wp2_with fail
  go_ret
  exact ⟨rfl, hbw⟩
theorem OwnD.rowD {w : World} {base g n cap : Nat} {l : List Prt} (h : OwnD w base (.slice (some ⟨g, 0, none⟩) n cap) l) (hn : n = l.length) : RowD w (some ⟨g, 0, none⟩) l := by
  subst hn; exact .inr ⟨g, rfl, ReadD.of_own h⟩

end Go.Proofs.YtncpijfbbgipaaaGreatDoor.Tr
