/- Tracks and what is left of chains, and from where the rows come: what the program answers. -/
import Derived.Test.YtkafanjfjplakaaGreatDoorVacL
namespace Go.Proofs.YtkafanjfjplakaaGreatDoor.Co
open Go.RowKit Tr
set_option linter.unusedVariables false

/-- A row lies in the block of another. -/
def From (p p' : Option Addr) : Prop := ∀ b o, p' = some ⟨b, o, none⟩ → ∃ o0, p = some ⟨b, o0, none⟩
theorem From.refl (p : Option Addr) : From p p := fun b o e => ⟨o, e⟩
set_option maxRecDepth 4000 in
set_option maxHeartbeats 1000000 in
theorem trackAt_from (id time : Int) (p : Option Addr) (cap : Nat) (l : List Ver) (w : World) (hin : InVr w p l) (hl : l.length ≤ 1048576) (hcap : l.length ≤ cap) :
    Calls Tryz.prog 53 #[.agg #[.int .i64 id, .slice p l.length cap], .int .i64 time] w fun e w' => (∃ p' c', e = .returned (.agg #[.int .i64 (trP time l).1.tm, .bool (trP time l).1.gone, .int .i64 (trP time l).1.doc.k, .int .i64 (trP time l).1.doc.n, .string (trP time l).1.doc.t, .slice p' (trP time l).2.length c']) ∧ InVr w p' (trP time l).2 ∧ (trP time l).2.length ≤ c' ∧ From p p') ∧ Below w.heap.size w w' := by
  obtain ⟨R, hR⟩ : ∃ R, R = trP time l := ⟨_, rfl⟩
  rw [← hR]
  have HR : Hid (R = trk time zG l) := hR
  have HI : Hid (InVr _ _ _) := hin
  clear hR hin
  go_enter Tryz.func53, Tryz.ntmps53
  go_wp2_with fail
  have K0 : TrB2 w (((w.alloc (.cells #[.int .i64 id, .slice p l.length cap] 94)).alloc (.cells #[.int .i64 0, .bool false, .int .i64 0, .int .i64 0, .string em, .slice none 0 0] 98)).alloc (.cells #[.int .i64 0, .bool true, .int .i64 0, .int .i64 0, .string em, .slice p l.length cap] 98)) zG (.slice p l.length cap) := by
    refine ⟨by (repeat (first | (with_reducible exact Below.refl _ _) | (with_reducible assumption) | (with_reducible apply below_drewN) | (with_reducible apply Below.drew) | ((with_reducible refine Below.setCell ?_ ?_ _); rotate_left; focus (first | (simp; done) | (simp; omega) | omega)) | ((with_reducible refine Below.alloc ?_ ?_ _); rotate_left; focus (first | (simp; done) | (simp; omega) | omega)))), ?_, ?_⟩
    · rw [heap_alloc_old _ _ (by simp)]
      have := heap_alloc_new (w.alloc (.cells #[.int .i64 id, .slice p l.length cap] 94)) (.cells #[.int .i64 0, .bool false, .int .i64 0, .int .i64 0, .string em, .slice none 0 0] 98)
      rw [heap_size_alloc] at this; exact this
    · have := heap_alloc_new ((w.alloc (.cells #[.int .i64 id, .slice p l.length cap] 94)).alloc (.cells #[.int .i64 0, .bool false, .int .i64 0, .int .i64 0, .string em, .slice none 0 0] 98)) (.cells #[.int .i64 0, .bool true, .int .i64 0, .int .i64 0, .string em, .slice p l.length cap] 98)
      rw [heap_size_alloc, heap_size_alloc] at this; exact this
  generalize (((w.alloc (.cells #[.int .i64 id, .slice p l.length cap] 94)).alloc (.cells #[.int .i64 0, .bool false, .int .i64 0, .int .i64 0, .string em, .slice none 0 0] 98)).alloc (.cells #[.int .i64 0, .bool true, .int .i64 0, .int .i64 0, .string em, .slice p l.length cap] 98)) = W0 at K0 ⊢
  go_loopw [13] (fun u wr => ∃ (cur : Ver) (r : List Ver) (p' : Option Addr) (c' : Nat), R = trk time cur r ∧ TrB2 w wr cur (.slice p' r.length c') ∧ InVr w p' r ∧ r.length ≤ c' ∧ r.length ≤ 1048576 ∧ Hid (From p p')) (fun _ wr => lenOf (wr.cell? ⟨w.heap.size + 2, 5, none⟩))
  case atStart => exact ⟨zG, l, p, cap, HR.out, K0, HI.out, hcap, hl, From.refl p⟩
  case round =>
    obtain ⟨cur, r, p', c', hall, K, hin, hc, hrl, HFR⟩ := hrel
    obtain ⟨t0, t1, t2, t3, t4, t5⟩ := six K.tb
    have hs := fun o => soft K.tb o
    clear K0 HI HR
    cases r with
    | nil =>
      have HF : Hid (R = (cur, [])) := hall
      have hbw := K.bel
      obtain ⟨q0, q1, q2, q3, q4, q5⟩ := six K.rb
      have hq := fun o => soft K.rb o
      clear hall hin hc
      simp only [List.length_nil] at t5
      go_wp2_with fail
      refine bodyPost_ret (v := .agg #[.int .i64 cur.tm, .bool cur.gone, .int .i64 cur.doc.k, .int .i64 cur.doc.n, .string cur.doc.t, .slice p' 0 c']) (by simp [results, Tryz.results53, go_sem, *]) rfl ⟨⟨p', c', by rw [HF.out]; rfl, by rw [HF.out]; exact .inl rfl, by rw [HF.out]; exact Nat.zero_le _, HFR.out⟩, ?_⟩
      (repeat (first | (with_reducible exact Below.refl _ _) | (with_reducible assumption) | (with_reducible apply below_drewN) | (with_reducible apply Below.drew) | ((with_reducible refine Below.setCell ?_ ?_ _); rotate_left; focus (first | (simp; done) | (simp; omega) | omega)) | ((with_reducible refine Below.alloc ?_ ?_ _); rotate_left; focus (first | (simp; done) | (simp; omega) | omega))))
    | cons v r' =>
      rcases hin.step K.bel with h0 | ⟨b, off, rfl, hbl, hcell⟩
      · simp at h0
      obtain ⟨x0, x1, x2, x3, x4⟩ := hcell 0 (by simp)
      simp only [List.getElem_cons_zero, Nat.zero_mul, Nat.add_zero] at x0 x1 x2 x3 x4
      have hlp : (0 : Int) < ((v :: r').length : Int) := by simp
      have hlr : (v :: r').length = r'.length + 1 := rfl
      by_cases hle : v.tm ≤ time
      · rw [trk_yes time cur v r' hle] at hall
        have HA : Hid (R = trk time v r') := hall
        have hbw := K.bel
        clear hall hcell
        go_wp2_with fail
        go_region
        have hin2 : InVr w (if c' = 1 then some ⟨b, off, none⟩ else some ⟨b, off + 5, none⟩) r' := by
          have hc3 : r'.length + 1 ≤ c' := hc
          by_cases h1 : c' = 1
          · rw [if_pos h1]; exact .inl (by omega)
          · rw [if_neg h1]; exact InVr.tail hin
        have HF2 : Hid (From p (if c' = 1 then some ⟨b, off, none⟩ else some ⟨b, off + 5, none⟩)) := by
          show From p _
          intro b' o' e
          by_cases h1 : c' = 1
          · rw [if_pos h1] at e; injection e with e; injection e with e1; subst e1; exact HFR.out _ off rfl
          · rw [if_neg h1] at e; injection e with e; injection e with e1; subst e1; exact HFR.out _ off rfl
        have hc3 : r'.length ≤ c' - 1 := by have : r'.length + 1 ≤ c' := hc; omega
        have hl3 : r'.length ≤ 1048576 := by have : r'.length + 1 ≤ 1048576 := hrl; omega
        have K2 := (K.put v (.slice (if c' = 1 then some ⟨b, off, none⟩ else some ⟨b, off + 5, none⟩) r'.length (c' - 1))).drew
        go_wp2_with fail
        go_roundw
        case rel => exact ⟨v, r', _, c' - 1, HA.out, K2, hin2, hc3, hl3, HF2⟩
        case measure =>
          have e1 := (six K2.tb).2.2.2.2.2
          show lenOf (World.cell? _ ⟨w.heap.size + 2, 5, none⟩) < _
          rw [t5]
          refine Nat.lt_of_le_of_lt (Nat.le_of_eq (congrArg lenOf e1)) ?_
          show r'.length < (v :: r').length
          simp
      · rw [trk_no time cur v r' hle] at hall
        have HF : Hid (R = (cur, v :: r')) := hall
        have hbw := K.bel
        obtain ⟨q0, q1, q2, q3, q4, q5⟩ := six K.rb
        have hq := fun o => soft K.rb o
        have HIN : Hid (InVr _ _ _) := hin
        have hc2 : (v :: r').length ≤ c' := hc
        clear hall hcell hin
        obtain ⟨N, hN⟩ : ∃ N, N = (v :: r').length := ⟨_, rfl⟩
        rw [← hN] at t5 hlp hc2
        go_wp2_with fail
        refine bodyPost_ret (v := .agg #[.int .i64 cur.tm, .bool cur.gone, .int .i64 cur.doc.k, .int .i64 cur.doc.n, .string cur.doc.t, .slice (some ⟨b, off, none⟩) N c']) (by simp [results, Tryz.results53, go_sem, *]) rfl ⟨⟨_, c', by rw [HF.out, hN], by rw [HF.out]; exact HIN.out, by rw [HF.out]; exact hc, HFR.out⟩, ?_⟩
        (repeat (first | (with_reducible exact Below.refl _ _) | (with_reducible assumption) | (with_reducible apply below_drewN) | (with_reducible apply Below.drew) | ((with_reducible refine Below.setCell ?_ ?_ _); rotate_left; focus (first | (simp; done) | (simp; omega) | omega)) | ((with_reducible refine Below.alloc ?_ ?_ _); rotate_left; focus (first | (simp; done) | (simp; omega) | omega))))
set_option maxRecDepth 4000 in
set_option maxHeartbeats 2000000 in
theorem left_from (cur : Ver) (r : List Ver) (p : Option Addr) (c : Nat) (w : World) (hin : InVr w p r) (hl : r.length ≤ 1000) :
    Calls Tryz.prog 54 #[.agg #[.int .i64 cur.tm, .bool cur.gone, .int .i64 cur.doc.k, .int .i64 cur.doc.n, .string cur.doc.t, .slice p r.length c]] w fun e w' => (∃ p' c', e = .returned (.slice p' (leftT cur r).length c') ∧ InVr w' p' (leftT cur r) ∧ (p' = p ∨ ∀ b o, p' = some ⟨b, o, none⟩ → w.heap.size ≤ b)) ∧ Below w.heap.size w w' := by
  have hbA : Below w.heap.size w (w.alloc (.cells #[.int .i64 cur.tm, .bool cur.gone, .int .i64 cur.doc.k, .int .i64 cur.doc.n, .string cur.doc.t, .slice p r.length c] 98)) := (Below.refl _ _).alloc (Nat.le_refl _) _
  have HI : Hid (InVr _ _ _) := hin.step hbA
  clear hin
  cases hg : cur.gone with
  | true =>
    have HL : Hid (leftT cur r = r) := by show leftT cur r = r; unfold leftT; rw [hg, if_pos rfl]
    rw [hg] at HI hbA
    go_enter Tryz.func54, Tryz.ntmps54
    go_wp2_with fail
    go_ret
    exact ⟨⟨p, c, by rw [HL.out]; try rfl, by rw [HL.out]; exact HI.out, .inl rfl⟩, hbA⟩
  | false =>
    have HL : Hid (leftT cur r = [cur] ++ r) := by show leftT cur r = _; unfold leftT; rw [hg, if_neg (by simp)]; rfl
    have HG : Hid (cur.gone = false) := hg
    rw [hg] at HI hbA
    clear hg
    go_enter Tryz.func54, Tryz.ntmps54
    go_wp2_with (at_builtin; refine wpList_appVr rfl (.tmp 10) (.tmp 12) rfl (w.heap.size + 1) (.slice (some ⟨w.heap.size + 1, 0, none⟩) 1 1) [cur] r p c rfl ?c1 rfl ?c2 (by simp) hl (by simp) ?_)
    case c1 =>
      have h := World.ownsRow_lit (base := w.heap.size + 1) (e := 96) (size := 5) (w.alloc (.cells #[.int .i64 cur.tm, .bool false, .int .i64 cur.doc.k, .int .i64 cur.doc.n, .string cur.doc.t, .slice p r.length c] 98)) #[.int .i64 cur.tm, .bool false, .int .i64 cur.doc.k, .int .i64 cur.doc.n, .string cur.doc.t] 1 (by simp) (by unfold maxLen; omega) rfl
      unfold OwnVr flatVr
      simp only [List.flatMap_cons, List.flatMap_nil, List.append_nil, List.length_cons, List.length_nil]
      unfold rowVr
      rw [HG.out]
      simpa using h
    case c2 => exact HI.out.step ((Below.refl _ _).alloc (Nat.le_refl _) _)
    intro v' w' hO hB
    obtain ⟨p', c', hv, hin'⟩ := hO.inVr
    have HW : Hid (∀ b o, p' = some ⟨b, o, none⟩ → w.heap.size ≤ b) := by
      show ∀ b o, p' = some ⟨b, o, none⟩ → w.heap.size ≤ b
      intro b o e
      rcases OwnVr.form hO with ⟨e1, e2⟩ | ⟨g, cap, e1, e2, _⟩
      · simp at e2
      · rw [hv, e] at e1; injection e1 with e1; injection e1 with e1; injection e1 with e1; omega
    subst hv
    have HO : Hid (InVr _ _ _) := hin'
    have hB' : Below w.heap.size w w' := (show Below w.heap.size w _ by (repeat (first | (with_reducible exact Below.refl _ _) | (with_reducible assumption) | (with_reducible apply below_drewN) | (with_reducible apply Below.drew) | ((with_reducible refine Below.setCell ?_ ?_ _); rotate_left; focus (first | (simp; done) | (simp; omega) | omega)) | ((with_reducible refine Below.alloc ?_ ?_ _); rotate_left; focus (first | (simp; done) | (simp; omega) | omega))))).trans (hB.mono (by omega))
    clear hB hO hin'
    go_wp2_with fail
    go_ret
    exact ⟨⟨p', c', by rw [HL.out]; try rfl, by rw [HL.out]; exact HO.out, .inr HW.out⟩, hB'⟩
/-- Chains that are kept: a row of one's own, whose chains lie wherever they lie, but not in it. -/
structure KeptC (w : World) (base : Nat) (v : Value) (l : List Chn) (q : Nat → Option Addr) (c : Nat → Nat) (xs : List Value) : Prop where
  row : w.ownsRow base 94 2 v l.length xs
  at_ : ∀ i (h : i < l.length), xs[i * 2]? = some (.int .i64 l[i].id) ∧ xs[i * 2 + 1]? = some (.slice (q i) l[i].vs.length (c i))
  ins : ∀ i (h : i < l.length), InVr w (q i) l[i].vs
  off : ∀ i b o, i < l.length → q i = some ⟨b, o, none⟩ → some b ≠ v.ownBlock
theorem KeptC.nil (w : World) (base : Nat) (q : Nat → Option Addr) (c : Nat → Nat) : KeptC w base (.slice none 0 0) [] q c [] :=
  ⟨⟨rfl, .inl ⟨rfl, rfl⟩⟩, fun i h => absurd h (by simp), fun i h => absurd h (by simp), fun i b o h => absurd h (by simp)⟩
theorem KeptC.next {w w' : World} {base : Nat} {v : Value} {l : List Chn} {q : Nat → Option Addr} {c : Nat → Nat} {xs : List Value} (h : KeptC w base v l q c xs) (hb : Below w.heap.size w w') : KeptC w' base v l q c xs :=
  ⟨owns_below h.row hb, h.at_, fun i hi => (h.ins i hi).step hb, h.off⟩
theorem inVr_lt {w : World} {b o : Nat} {l : List Ver} (h : InVr w (some ⟨b, o, none⟩) l) (h0 : 0 < l.length) : b < w.heap.size := by
  rcases h with h | ⟨b', o', e, hl, _⟩
  · omega
  · injection e with e; injection e with e; subst e; exact hl
theorem KeptC.snoc {w w' : World} {base : Nat} {v v' : Value} {l : List Chn} {q : Nat → Option Addr} {c : Nat → Nat} {xs : List Value} {o : Obj} {en : Chn} {p : Option Addr} {cc : Nat}
    (h : KeptC w base v l q c xs) (hpos : ∀ e ∈ l, 0 < e.vs.length) (hp : 0 < en.vs.length) (hin : InVr w p en.vs) (hoff : ∀ b o, p = some ⟨b, o, none⟩ → some b ≠ v.ownBlock)
    (hr : w'.ownsRow base 94 2 v' (l.length + 1) (xs ++ [.int .i64 en.id, .slice p en.vs.length cc])) (hg : (w.alloc o).grownBy w' v.ownBlock) (hat : v'.ownBlock = v.ownBlock ∨ v'.ownBlock = some (w.alloc o).heap.size) :
    KeptC w' base v' (l ++ [en]) (fun i => if i = l.length then p else q i) (fun i => if i = l.length then cc else c i) (xs ++ [.int .i64 en.id, .slice p en.vs.length cc]) := by
  have hl : xs.length = l.length * 2 := h.row.1
  have hgo : ∀ (a : Option Addr) (r : List Ver), InVr w a r → (∀ b o, a = some ⟨b, o, none⟩ → some b ≠ v.ownBlock) → InVr w' a r := fun a r h1 h2 => (h1.step ((Below.refl _ _).alloc (Nat.le_refl _) o)).grown hg h2
  have hnew : ∀ (b : Nat), b < w.heap.size → some b ≠ v.ownBlock → some b ≠ v'.ownBlock := by
    intro b hb hne e
    rcases hat with e2 | e2
    · rw [e2] at e; exact hne e
    · rw [e2] at e; injection e with e; simp at e; omega
  refine ⟨by rw [List.length_append]; exact hr, ?_, ?_, ?_⟩
  · intro i hi
    have hi2 : i < l.length + 1 := by simpa using hi
    by_cases e : i = l.length
    · subst e
      simp only [if_pos, List.getElem_concat_length]
      rw [List.getElem?_append_right (by omega), List.getElem?_append_right (by omega), hl, Nat.sub_self, show l.length * 2 + 1 - l.length * 2 = 1 by omega]
      exact ⟨rfl, rfl⟩
    · have hi3 : i < l.length := by omega
      simp only [if_neg e]
      rw [List.getElem_append_left hi3, List.getElem?_append_left (by omega), List.getElem?_append_left (by omega)]
      exact h.at_ i hi3
  · intro i hi
    have hi2 : i < l.length + 1 := by simpa using hi
    by_cases e : i = l.length
    · subst e
      simp only [if_pos, List.getElem_concat_length]
      exact hgo _ _ hin hoff
    · have hi3 : i < l.length := by omega
      simp only [if_neg e]
      rw [List.getElem_append_left hi3]
      exact hgo _ _ (h.ins i hi3) (fun b o e => h.off i b o hi3 e)
  · intro i b o' hi hq
    have hi2 : i < l.length + 1 := by simpa using hi
    by_cases e : i = l.length
    · subst e
      simp only [if_pos] at hq
      subst hq
      exact hnew b (inVr_lt hin hp) (hoff b o' rfl)
    · have hi3 : i < l.length := by omega
      simp only [if_neg e] at hq
      have h1 := h.ins i hi3
      rw [hq] at h1
      exact hnew b (inVr_lt h1 (hpos _ (List.getElem_mem _))) (h.off i b o' hi3 hq)
theorem KeptC.inCh {w : World} {base : Nat} {v : Value} {l : List Chn} {q : Nat → Option Addr} {c : Nat → Nat} {xs : List Value} (h : KeptC w base v l q c xs) : ∃ p cap, v = .slice p l.length cap ∧ RowCh w p l := by
  have hlt := h.row.lt
  have hcell := fun j u hj => fun g cap (e : v = .slice (some ⟨g, 0, none⟩) l.length cap) => owns_cell (e ▸ h.row) j u hj
  rcases h.row.2 with ⟨hv, hn⟩ | ⟨g, cap, cur, hv, _⟩
  · exact ⟨none, 0, by rw [hv, hn], .inl (List.length_eq_zero_iff.1 hn)⟩
  · refine ⟨some ⟨g, 0, none⟩, cap, hv, .inr ⟨g, rfl, (hlt g (by rw [hv]; rfl)).2, fun i hi => ⟨hcell _ _ (h.at_ i hi).1 g cap hv, q i, c i, hcell _ _ (h.at_ i hi).2 g cap hv, h.ins i hi⟩⟩⟩

end Go.Proofs.YtkafanjfjplakaaGreatDoor.Co
