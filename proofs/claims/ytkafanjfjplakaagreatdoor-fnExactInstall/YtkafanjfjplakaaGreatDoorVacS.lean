/- The specification's Vacuum: what is left, and the walk. -/
import Derived.Test.YtkafanjfjplakaaGreatDoorVacI
namespace Go.Proofs.YtkafanjfjplakaaGreatDoor.Co
open Go.RowKit Tr
set_option linter.unusedVariables false

/-- The place that the specification's search has come to. -/
structure InvV (t : Int) (l : List Ver) (n : Nat) : Prop where
  lt : n < l.length
  how : (n = 0 ∧ ¬ (l[n]'lt).tm ≤ t) ∨ ((l[n]'lt).tm ≤ t ∧ trk t zG l = trk t (l[n]'lt) (l.drop (n + 1)))
theorem InvV.start (t : Int) (l : List Ver) (h : 0 < l.length) : InvV t l 0 := by
  refine ⟨h, ?_⟩
  by_cases hc : l[0].tm ≤ t
  · refine .inr ⟨hc, ?_⟩
    cases l with
    | nil => simp at h
    | cons v r => rw [trk_yes t zG v r hc]; rfl
  · exact .inl ⟨rfl, hc⟩
theorem InvV.step {t : Int} {l : List Ver} {n : Nat} (h : InvV t l n) (hr : (h1 : n + 1 < l.length) → l[n].tm < l[n + 1].tm) (h1 : n + 1 < l.length) (hc : l[n + 1].tm ≤ t) : InvV t l (n + 1) := by
  have hlt := h.lt
  have hr' := hr h1
  refine ⟨h1, .inr ⟨hc, ?_⟩⟩
  rcases h.how with ⟨_, h3⟩ | ⟨_, h3⟩
  · omega
  · rw [h3, List.drop_eq_getElem_cons h1, trk_yes t _ _ _ hc]
theorem InvV.left {t : Int} {l : List Ver} {n : Nat} (h : InvV t l n) (he : (h1 : n + 1 < l.length) → ¬ l[n + 1].tm ≤ t) (hlt : n < l.length) :
    (l[n].gone = true → l[n].tm ≤ t → leftV t l = l.drop (n + 1)) ∧ ((l[n].gone = false ∨ ¬ l[n].tm ≤ t) → leftV t l = l.drop n) := by
  rcases h.how with ⟨h2, h3⟩ | ⟨h2, h3⟩
  · refine ⟨fun _ hc => absurd hc h3, fun _ => ?_⟩
    subst h2
    unfold leftV trP leftT
    cases l with
    | nil => simp at hlt
    | cons v r => rw [trk_no t zG v r h3]; rfl
  · have e : trk t zG l = (l[n], l.drop (n + 1)) := by
      rw [h3]
      by_cases h1 : n + 1 < l.length
      · rw [List.drop_eq_getElem_cons h1, trk_no t _ _ _ (he h1)]
      · rw [List.drop_eq_nil_of_le (by omega)]; rfl
    unfold leftV trP leftT
    rw [e]
    refine ⟨fun hg _ => by rw [if_pos hg], fun hg => ?_⟩
    rcases hg with hg | hg
    · show (if l[n].gone = true then _ else _) = _
      rw [if_neg (by rw [hg]; simp), List.drop_eq_getElem_cons hlt]
    · exact absurd h2 hg
/-- Rows that lie in blocks of one's own. -/
def LowQ (base : Nat) (q : Nat → Option Addr) (n : Nat) : Prop := ∀ i b o, i < n → q i = some ⟨b, o, none⟩ → base ≤ b
theorem LowQ.snoc {base n g o : Nat} {q : Nat → Option Addr} (h : LowQ base q n) (hg : base ≤ g) : LowQ base (fun i => if i = n then some ⟨g, o, none⟩ else q i) (n + 1) := by
  intro i b o' hi e
  by_cases hn : i = n
  · simp only [if_pos hn] at e
    injection e with e; injection e with e; omega
  · simp only [if_neg hn] at e
    exact h i b o' (by omega) e
theorem KeptC.set {w : World} {base g o : Nat} {v x : Value} {l : List Chn} {q : Nat → Option Addr} {c : Nat → Nat} {xs : List Value} (h : KeptC w base v l q c xs) (hq : LowQ base q l.length) (hg : g < base) : KeptC (w.setCell ⟨g, o, none⟩ x) base v l q c xs :=
  ⟨World.ownsRow.kept h.row grown_set (by
      cases hv : v.ownBlock with
      | none => exact .inl rfl
      | some b => exact .inr (fun e => by injection e with e; have := (h.row.lt b hv).1; omega)), h.at_, fun i hi => (h.ins i hi).grown grown_set (fun b o e e2 => by injection e2 with e2; have := hq i b o hi e; omega), h.off⟩
theorem KeptC.rowAt {w : World} {base n cap : Nat} {p : Option Addr} {l : List Chn} {q : Nat → Option Addr} {c : Nat → Nat} {xs : List Value} (h : KeptC w base (.slice p n cap) l q c xs) : RowCh w p l := by
  obtain ⟨p', cap', e, hr⟩ := h.inCh
  injection e with e
  rw [e]; exact hr
theorem versB_next2 (id : Int) : ∀ (l : List Ver) (last : Int), versB id last l = true → ∀ n (h : n + 1 < l.length), (l[n]'(by omega)).tm < l[n + 1].tm
  | [], _, _, n, h => by simp at h
  | [_], _, _, n, h => by simp at h
  | v :: u :: r, last, hv, 0, _ => by
    unfold versB at hv
    simp only [Bool.and_eq_true] at hv
    have h2 := hv.2.2.2
    unfold versB at h2
    simp only [Bool.and_eq_true, decide_eq_true_eq] at h2
    exact h2.1
  | v :: u :: r, last, hv, n + 1, h => by
    unfold versB at hv
    simp only [Bool.and_eq_true] at hv
    exact versB_next2 id (u :: r) v.tm hv.2.2.2 n (by simpa using h)
theorem wpList_appVm {w : World} {ops : Array Oper} {rest : List Oper} {o : Oper} {a : Act} {Q : Exit → Act → World → Prop} (hgd : o.guard = none) (s x : Operand)
    (ho : o.op = .call { callee := .builtin .append, args := #[s, x], argTypes := #[92, 92] }) (base : Nat) (v : Value) (l r : List Ver) (p : Option Addr) (c m : Nat) (hm' : r.length = m)
    (hs : a.eval s = v) (hown : OwnVr w base v l) (hx : a.eval x = .slice p m c) (hin : InVr w p r) (hn : l.length ≤ 1000) (hm : r.length ≤ 1000) (hbase : base ≤ w.heap.size)
    (hK : ∀ v' w', OwnVr w' base v' (l ++ r) → Below base w w' → wpList Tryz.prog ops Q rest (a.put o.dst v') w') : wpList Tryz.prog ops Q (o :: rest) a w := by
  subst hm'
  exact wpList_appVr hgd s x ho base v l r p c hs hown hx hin hn hm hbase hK
theorem InVr.dropN {w : World} {b off : Nat} {l : List Ver} (n : Nat) (h : InVr w (some ⟨b, off, none⟩) l) (hn : n < l.length) : InVr w (some ⟨b, off + n * 5, none⟩) (l.drop n) := by
  rcases h with h | ⟨b', off', e, hlt, hc⟩
  · omega
  · injection e with e
    injection e with e1 e2
    subst e1 e2
    refine .inr ⟨b, off + n * 5, rfl, hlt, fun i hi => ?_⟩
    have hi2 : n + i < l.length := by simp at hi; omega
    have := hc (n + i) hi2
    rw [List.getElem_drop]
    rw [show off + n * 5 + i * 5 = off + (n + i) * 5 by omega]
    exact this

set_option maxRecDepth 4000 in
set_option maxHeartbeats 4000000 in
theorem l08Vacuum_any (c : Col) (t : Int) (g1 g2 : Nat) (cp cq : Nat) (w : World) (hr : RdC w g1 g2 c) (h20 : c.chs.length ≤ 20) (hpt : ∀ x ∈ c.chs, topB x.id = true ∧ 1 ≤ x.vs.length ∧ x.vs.length ≤ 12 ∧ versB x.id 0 x.vs = true) :
    Calls Tryz.prog 49 #[.agg #[.string c.name, .slice (some ⟨g1, 0, none⟩) c.chs.length cp, .slice (some ⟨g2, 0, none⟩) c.dfs.length cq], .int .i64 t] w fun e w' => (∃ p ck, e = .returned (.agg #[.string c.name, .slice p (vacB t c.chs).length ck, .slice (some ⟨g2, 0, none⟩) c.dfs.length cq]) ∧ RowCh w' p (vacB t c.chs)) ∧ Below w.heap.size w w' := by
  have HR : Hid (RdC _ _ _ _) := hr
  have HPT : Hid _ := hpt
  have M0 := MkQ.start w (.string c.name) (.slice (some ⟨g1, 0, none⟩) c.chs.length cp) (.slice (some ⟨g2, 0, none⟩) c.dfs.length cq) (.string em) (.slice none 0 0) (.slice none 0 0) 30 30
  have hO0 := World.ownsRow_made (size := 2) (base := w.heap.size + 2) (e := 94) ((w.alloc (.cells #[.string c.name, .slice (some ⟨g1, 0, none⟩) c.chs.length cp, .slice (some ⟨g2, 0, none⟩) c.dfs.length cq] 30)).alloc (.cells #[.string em, .slice none 0 0, .slice none 0 0] 30)) #[] 0 (by simp) (by unfold maxLen; omega) rfl
  simp at hO0
  have M1 := M0.next ((Below.refl _ _).alloc (Nat.le_refl _) (.cells #[] 94))
  clear hr hpt M0
  go_enter Tryz.func49, Tryz.ntmps49
  go_wp2_with fail
  generalize ((w.alloc (.cells #[.string c.name, .slice (some ⟨g1, 0, none⟩) c.chs.length cp, .slice (some ⟨g2, 0, none⟩) c.dfs.length cq] 30)).alloc (.cells #[.string em, .slice none 0 0, .slice none 0 0] 30)).alloc (.cells #[] 94) = W0 at M1 hO0 ⊢
  go_loopw [5, 6] (fun u i wr => ∃ (k : Nat) (qf : Nat → Option Addr) (cf : Nat → Nat) (xs : List Value), k ≤ c.chs.length ∧ i = .int .i64 k ∧ MkQ w wr (.string c.name) (.slice (some ⟨g1, 0, none⟩) c.chs.length cp) (.slice (some ⟨g2, 0, none⟩) c.dfs.length cq) ∧ KeptC wr (w.heap.size + 2) u (vacB t (c.chs.take k)) qf cf xs ∧ Hid (LowQ (w.heap.size + 2) qf (vacB t (c.chs.take k)).length)) (fun _ i _ => c.chs.length - (intOf i).toNat)
  case atStart => exact ⟨0, fun _ => none, fun _ => 0, [], Nat.zero_le _, rfl, M1, ⟨hO0, fun i h => absurd h (by simp [vacB]), fun i h => absurd h (by simp [vacB]), fun i b o h => absurd h (by simp [vacB])⟩, fun i b o h => absurd h (by simp [vacB])⟩
  case round =>
    obtain ⟨k, qf, cf, xs, hk, rfl, M, hKC, HLQ⟩ := hrel
    have HKC : Hid (KeptC _ _ _ _ _ _ _) := hKC
    have HM : Hid (MkQ _ _ _ _ _) := M
    have hz := M.lt
    have hbel := M.bel
    have n1 := M.c1
    clear hKC M1 hO0
    by_cases hlt : k < c.chs.length
    · obtain ⟨x0', pv, cv, x1', hcv, hT⟩ := HR.out.ch.cells k hlt
      have hgl := Nat.lt_of_lt_of_le HR.out.ch.lt hbel.size
      have x0 := (hbel.cell HR.out.ch.lt).trans x0'
      have x1 := (hbel.cell HR.out.ch.lt).trans x1'
      have hlt2 : (k : Int) < (c.chs.length : Int) := by omega
      have hv1 := (HPT.out c.chs[k] (List.getElem_mem _)).2.1
      have hvl := (HPT.out c.chs[k] (List.getElem_mem _)).2.2.1
      have hrs := versB_next2 _ _ _ (HPT.out c.chs[k] (List.getElem_mem _)).2.2.2
      have HNO : Hid ((leftV t c.chs[k].vs).length = 0 → vacB t (c.chs.take (k + 1)) = vacB t (c.chs.take k)) := fun e => vacB_none t c.chs k hlt e
      have HSO : Hid (¬ (leftV t c.chs[k].vs).length = 0 → vacB t (c.chs.take (k + 1)) = vacB t (c.chs.take k) ++ [⟨c.chs[k].id, leftV t c.chs[k].vs⟩]) := fun e => vacB_some t c.chs k hlt e
      have hll := vacB_len t (c.chs.take k)
      rw [List.length_take] at hll
      have HPO : Hid (∀ e ∈ vacB t (c.chs.take k), 0 < e.vs.length) := fun e he => (vacB_mem he).choose_spec.2.2.2
      obtain ⟨x, hx⟩ : ∃ x, x = c.chs[k] := ⟨_, rfl⟩
      rw [← hx] at x0 x1 hcv hT hv1 hvl HNO HSO
      have HRS : Hid (∀ n (h : n + 1 < x.vs.length), (x.vs[n]'(by omega)).tm < x.vs[n + 1].tm) := by
        show ∀ n (h : n + 1 < x.vs.length), (x.vs[n]'(by omega)).tm < x.vs[n + 1].tm
        rw [hx]; exact hrs
      rcases hT.step hbel with h0 | ⟨b, off, rfl, hbl, hcell⟩
      · omega
      have HCE : Hid _ := hcell
      have hvp : (0 : Int) < ((x.vs.length : Nat) : Int) := by omega
      clear hx hT hcell x0' x1' hrs
      go_wp2_with fail
      obtain ⟨VK, hVK⟩ : ∃ VK, VK = vacB t (c.chs.take k) := ⟨_, rfl⟩
      rw [← hVK] at HNO HSO HKC hll HPO HLQ
      clear hVK
      go_loopw [8] (fun i wq => ∃ n : Nat, i = .int .i64 n ∧ wq = wr ∧ InvV t x.vs n) (fun i _ => x.vs.length - (intOf i).toNat)
      case atStart => exact ⟨0, rfl, rfl, InvV.start t x.vs (by omega)⟩
      case round =>
        obtain ⟨n, rfl, rfl, hI⟩ := hrel
        have hnl := hI.lt
        have HI : Hid (InvV _ _ _) := hI
        clear hI
        by_cases hn1 : n + 1 < x.vs.length
        · have hn1' : ((n : Int) + 1) < ((x.vs.length : Nat) : Int) := by omega
          obtain ⟨y0, y1, y2, y3, y4⟩ := HCE.out (n + 1) hn1
          by_cases hle : x.vs[n + 1].tm ≤ t
          · have HI2 : Hid (InvV t x.vs (n + 1)) := HI.out.step (fun h => HRS.out n h) hn1 hle
            go_wp2_with fail
            go_roundw
            case rel => exact ⟨n + 1, by go_num, trivial, HI2.out⟩
            case measure => simp [intOf]; omega
          · have HE : Hid ((h1 : n + 1 < x.vs.length) → ¬ x.vs[n + 1].tm ≤ t) := fun _ => hle
            have hlf := HI.out.left HE.out hnl
            have HLF : Hid (_ ∧ _) := hlf
            have hcn : n < cv := by omega
            have hcn2 : ¬ cv = n := by omega
            have hcn3 : ¬ cv - n = 0 := by omega
            have hdl : (x.vs.drop n).length = x.vs.length - n := List.length_drop
            have hbV : Below wr.heap.size wr (wr.alloc (.cells #[] 96)) := (Below.refl _ _).alloc (Nat.le_refl _) _
            have HV0 : Hid (OwnVr (wr.alloc (.cells #[] 96)) wr.heap.size (.slice (some ⟨wr.heap.size, 0, none⟩) 0 0) []) := World.ownsRow_made (size := 5) (base := wr.heap.size) (e := 96) wr #[] 0 (Nat.le_refl _) (by unfold maxLen; omega) rfl
            have HIN : Hid (InVr (wr.alloc (.cells #[] 96)) (some ⟨b, off + n * 5, none⟩) (x.vs.drop n)) := (InVr.dropN n (.inr ⟨b, off, rfl, hbl, HCE.out⟩) hnl).step hbV
            clear hlf HE HI
            go_wp2_with (at_builtin; refine wpList_appVm rfl (.tmp 41) (.tmp 44) rfl wr.heap.size (.slice (some ⟨wr.heap.size, 0, none⟩) 0 0) [] (x.vs.drop n) (some ⟨b, off + n * 5, none⟩) (cv - n) (x.vs.length - n) hdl rfl HV0.out rfl HIN.out (by simp) (by omega) (by simp) ?_)
            intro v5 w5 hO5 hB5
            obtain ⟨gK, cw, hv5, hgK, hgK2, hcw, _⟩ := rowForm hO5 (by omega)
            subst hv5
            have hin5 := (OwnVr.inVr hO5)
            obtain ⟨p5, c5, e5, hin5⟩ := hin5
            injection e5 with e5 e6 e7
            subst e5
            have HI5 : Hid (InVr w5 (some ⟨gK, 0, none⟩) (x.vs.drop n)) := hin5
            have hcell5 := hin5
            rcases hcell5 with h0 | ⟨gK', off', e, _, hc5⟩
            · omega
            injection e with e
            injection e with e1 e2
            subst e1 e2
            obtain ⟨a0, a1, _, _, _⟩ := hc5 0 (by omega)
            simp only [Nat.zero_mul, Nat.add_zero, Nat.zero_add, List.getElem_drop] at a0 a1
            have BW5 : Below wr.heap.size wr w5 := hbV.trans (hB5.mono (Nat.le_refl _))
            have HM3 : Hid (MkQ _ _ _ _ _) := HM.out.next BW5
            have HK3 : Hid (KeptC _ _ _ _ _ _ _) := HKC.out.next BW5
            have hz5 := HM3.out.lt
            have n15 := HM3.out.c1
            have x05 := (BW5.cell hgl).trans x0
            have hgl5 := Nat.lt_of_lt_of_le hgl BW5.size
            rw [hdl] at hcw
            clear hO5 hB5 hin5 hc5 hbV HV0 HIN e6 e7
            generalize hen : x.vs[n] = en at a0 a1 HLF
            clear hen
            by_cases hgo : en.gone = true
            · rw [hgo] at a1
              by_cases hle2 : en.tm ≤ t
              · have hLE := HLF.out.1 hgo hle2
                have HLE : Hid (leftV t x.vs = x.vs.drop (n + 1)) := hLE
                have hdl1 : (x.vs.drop (n + 1)).length = x.vs.length - n - 1 := by rw [List.length_drop]; omega
                clear hLE HLF
                by_cases hL0 : x.vs.length - n = 1
                · exfalso; omega
                · have hcw1 : ¬ cw = 1 := by omega
                  have hcw2 : ¬ cw - 1 = 0 := by omega
                  have hL1 : (0 : Int) < ((x.vs.length - n - 1 : Nat) : Int) := by omega
                  have hL2 : 0 < x.vs.length - n - 1 := by omega
                  have HI6 : Hid (InVr w5 (some ⟨gK, 0 + 5, none⟩) (x.vs.drop (n + 1))) := by
                    have h := HI5.out
                    rw [List.drop_eq_getElem_cons hnl] at h
                    exact InVr.tail h
                  have HNX : Hid (_ = _) := HSO.out (by rw [HLE.out]; rw [hdl1]; omega)
                  rw [HLE.out] at HNX
                  go_wp2_with (at_builtin; refine wpList_appCh rfl (.tmp 63) (.tmp 72) rfl (w.heap.size + 2) VK.length _ xs rfl (HK3.out.row.alloc _) ⟨w5.heap.size, 0, none⟩ 1 1 [.int .i64 x.id, .slice (some ⟨gK, 5, none⟩) (x.vs.length - n - 1) (cw - 1)] rfl rfl (two_newA _ _ _ _) (two_oneA _ rfl _ _ _) (by omega) (by omega) (by simp; omega) ?_)
                  intro v7 w7 o7 g7 at7
                  have B7 : Below (w.heap.size + 2) w5 w7 := Below.grown ((Below.refl _ w5).alloc (by omega) _) g7 (by simp; omega) (fun b hb => (HK3.out.row.lt b hb).1)
                  have HM7 : Hid (MkQ _ _ _ _ _) := HM3.out.step B7 (Nat.le_refl _)
                  have hK8 := HK3.out.snoc (en := ⟨x.id, x.vs.drop (n + 1)⟩) (p := some ⟨gK, 5, none⟩) (cc := cw - 1) HPO.out (by show 0 < (x.vs.drop (n + 1)).length; omega) (by simpa using HI6.out) (fun b' o' e e2 => by
                    injection e with e; injection e with e; subst e
                    have h2 := (HKC.out.row.lt _ e2.symm).2
                    omega) (by rw [hdl1]; exact o7) g7 (by simpa using at7)
                  have HK8 : Hid (KeptC _ _ _ _ _ _ _) := hK8
                  clear o7 g7 at7 hK8 B7
                  go_wp2_with fail
                  go_roundw
                  case rel => exact ⟨k + 1, _, _, _, by omega, by go_num, HM7.out, by rw [HNX.out]; exact HK8.out, (show LowQ _ _ _ by rw [HNX.out, List.length_append]; exact HLQ.out.snoc (by omega))⟩
                  case measure => simp [intOf]; omega
              · have HLE : Hid (leftV t x.vs = x.vs.drop n) := HLF.out.2 (.inr (by omega))
                have hL1 : (0 : Int) < ((x.vs.length - n : Nat) : Int) := by omega
                clear HLF
                have HNX : Hid (_ = _) := HSO.out (by rw [HLE.out]; rw [hdl]; omega)
                rw [HLE.out] at HNX
                go_wp2_with (at_builtin; refine wpList_appCh rfl (.tmp 63) (.tmp 72) rfl (w.heap.size + 2) VK.length _ xs rfl (HK3.out.row.alloc _) ⟨w5.heap.size, 0, none⟩ 1 1 [.int .i64 x.id, .slice (some ⟨gK, 0, none⟩) (x.vs.length - n) (cw)] rfl rfl (two_newA _ _ _ _) (two_oneA _ rfl _ _ _) (by omega) (by omega) (by simp; omega) ?_)
                intro v7 w7 o7 g7 at7
                have B7 : Below (w.heap.size + 2) w5 w7 := Below.grown ((Below.refl _ w5).alloc (by omega) _) g7 (by simp; omega) (fun b hb => (HK3.out.row.lt b hb).1)
                have HM7 : Hid (MkQ _ _ _ _ _) := HM3.out.step B7 (Nat.le_refl _)
                have hK8 := HK3.out.snoc (en := ⟨x.id, x.vs.drop n⟩) (p := some ⟨gK, 0, none⟩) (cc := cw) HPO.out (by show 0 < (x.vs.drop n).length; omega) HI5.out (fun b' o' e e2 => by
                  injection e with e; injection e with e; subst e
                  have h2 := (HKC.out.row.lt _ e2.symm).2
                  omega) (by rw [hdl]; exact o7) g7 (by simpa using at7)
                have HK8 : Hid (KeptC _ _ _ _ _ _ _) := hK8
                clear o7 g7 at7 hK8 B7
                go_wp2_with fail
                go_roundw
                case rel => exact ⟨k + 1, _, _, _, by omega, by go_num, HM7.out, by rw [HNX.out]; exact HK8.out, (show LowQ _ _ _ by rw [HNX.out, List.length_append]; exact HLQ.out.snoc (by omega))⟩
                case measure => simp [intOf]; omega
            · have hgo2 : en.gone = false := by simpa using hgo
              rw [hgo2] at a1
              have HLE : Hid (leftV t x.vs = x.vs.drop n) := HLF.out.2 (.inl hgo2)
              have hL1 : (0 : Int) < ((x.vs.length - n : Nat) : Int) := by omega
              clear HLF
              have HNX : Hid (_ = _) := HSO.out (by rw [HLE.out]; rw [hdl]; omega)
              rw [HLE.out] at HNX
              go_wp2_with (at_builtin; refine wpList_appCh rfl (.tmp 63) (.tmp 72) rfl (w.heap.size + 2) VK.length _ xs rfl (HK3.out.row.alloc _) ⟨w5.heap.size, 0, none⟩ 1 1 [.int .i64 x.id, .slice (some ⟨gK, 0, none⟩) (x.vs.length - n) (cw)] rfl rfl (two_newA _ _ _ _) (two_oneA _ rfl _ _ _) (by omega) (by omega) (by simp; omega) ?_)
              intro v7 w7 o7 g7 at7
              have B7 : Below (w.heap.size + 2) w5 w7 := Below.grown ((Below.refl _ w5).alloc (by omega) _) g7 (by simp; omega) (fun b hb => (HK3.out.row.lt b hb).1)
              have HM7 : Hid (MkQ _ _ _ _ _) := HM3.out.step B7 (Nat.le_refl _)
              have hK8 := HK3.out.snoc (en := ⟨x.id, x.vs.drop n⟩) (p := some ⟨gK, 0, none⟩) (cc := cw) HPO.out (by show 0 < (x.vs.drop n).length; omega) HI5.out (fun b' o' e e2 => by
                injection e with e; injection e with e; subst e
                have h2 := (HKC.out.row.lt _ e2.symm).2
                omega) (by rw [hdl]; exact o7) g7 (by simpa using at7)
              have HK8 : Hid (KeptC _ _ _ _ _ _ _) := hK8
              clear o7 g7 at7 hK8 B7
              go_wp2_with fail
              go_roundw
              case rel => exact ⟨k + 1, _, _, _, by omega, by go_num, HM7.out, by rw [HNX.out]; exact HK8.out, (show LowQ _ _ _ by rw [HNX.out, List.length_append]; exact HLQ.out.snoc (by omega))⟩
              case measure => simp [intOf]; omega
        · have hn1' : ¬ ((n : Int) + 1) < ((x.vs.length : Nat) : Int) := by omega
          have HE : Hid ((h1 : n + 1 < x.vs.length) → ¬ x.vs[n + 1].tm ≤ t) := fun h => absurd h hn1
          have hlf := HI.out.left HE.out hnl
          have HLF : Hid (_ ∧ _) := hlf
          have hcn : n < cv := by omega
          have hcn2 : ¬ cv = n := by omega
          have hcn3 : ¬ cv - n = 0 := by omega
          have hdl : (x.vs.drop n).length = x.vs.length - n := List.length_drop
          have hbV : Below wr.heap.size wr (wr.alloc (.cells #[] 96)) := (Below.refl _ _).alloc (Nat.le_refl _) _
          have HV0 : Hid (OwnVr (wr.alloc (.cells #[] 96)) wr.heap.size (.slice (some ⟨wr.heap.size, 0, none⟩) 0 0) []) := World.ownsRow_made (size := 5) (base := wr.heap.size) (e := 96) wr #[] 0 (Nat.le_refl _) (by unfold maxLen; omega) rfl
          have HIN : Hid (InVr (wr.alloc (.cells #[] 96)) (some ⟨b, off + n * 5, none⟩) (x.vs.drop n)) := (InVr.dropN n (.inr ⟨b, off, rfl, hbl, HCE.out⟩) hnl).step hbV
          clear hlf HE HI
          go_wp2_with (at_builtin; refine wpList_appVm rfl (.tmp 41) (.tmp 44) rfl wr.heap.size (.slice (some ⟨wr.heap.size, 0, none⟩) 0 0) [] (x.vs.drop n) (some ⟨b, off + n * 5, none⟩) (cv - n) (x.vs.length - n) hdl rfl HV0.out rfl HIN.out (by simp) (by omega) (by simp) ?_)
          intro v5 w5 hO5 hB5
          obtain ⟨gK, cw, hv5, hgK, hgK2, hcw, _⟩ := rowForm hO5 (by omega)
          subst hv5
          have hin5 := (OwnVr.inVr hO5)
          obtain ⟨p5, c5, e5, hin5⟩ := hin5
          injection e5 with e5 e6 e7
          subst e5
          have HI5 : Hid (InVr w5 (some ⟨gK, 0, none⟩) (x.vs.drop n)) := hin5
          have hcell5 := hin5
          rcases hcell5 with h0 | ⟨gK', off', e, _, hc5⟩
          · omega
          injection e with e
          injection e with e1 e2
          subst e1 e2
          obtain ⟨a0, a1, _, _, _⟩ := hc5 0 (by omega)
          simp only [Nat.zero_mul, Nat.add_zero, Nat.zero_add, List.getElem_drop] at a0 a1
          have BW5 : Below wr.heap.size wr w5 := hbV.trans (hB5.mono (Nat.le_refl _))
          have HM3 : Hid (MkQ _ _ _ _ _) := HM.out.next BW5
          have HK3 : Hid (KeptC _ _ _ _ _ _ _) := HKC.out.next BW5
          have hz5 := HM3.out.lt
          have n15 := HM3.out.c1
          have x05 := (BW5.cell hgl).trans x0
          have hgl5 := Nat.lt_of_lt_of_le hgl BW5.size
          rw [hdl] at hcw
          clear hO5 hB5 hin5 hc5 hbV HV0 HIN e6 e7
          generalize hen : x.vs[n] = en at a0 a1 HLF
          clear hen
          by_cases hgo : en.gone = true
          · rw [hgo] at a1
            by_cases hle2 : en.tm ≤ t
            · have hLE := HLF.out.1 hgo hle2
              have HLE : Hid (leftV t x.vs = x.vs.drop (n + 1)) := hLE
              have hdl1 : (x.vs.drop (n + 1)).length = x.vs.length - n - 1 := by rw [List.length_drop]; omega
              clear hLE HLF
              by_cases hL0 : x.vs.length - n = 1
              · have HNX : Hid (_ = _) := HNO.out (by rw [HLE.out, hdl1]; omega)
                have hL1 : ¬ (0 : Int) < ((x.vs.length - n - 1 : Nat) : Int) := by omega
                have hLp : 1 ≤ x.vs.length - n := by omega
                clear hL0
                go_wp2_with fail
                all_goals
                  go_roundw
                  case rel => exact ⟨k + 1, qf, cf, xs, by omega, by go_num, HM3.out, by rw [HNX.out]; exact HK3.out, by rw [HNX.out]; exact HLQ⟩
                  case measure => simp [intOf]; omega
              · exfalso; omega
            · have HLE : Hid (leftV t x.vs = x.vs.drop n) := HLF.out.2 (.inr (by omega))
              have hL1 : (0 : Int) < ((x.vs.length - n : Nat) : Int) := by omega
              clear HLF
              have HNX : Hid (_ = _) := HSO.out (by rw [HLE.out]; rw [hdl]; omega)
              rw [HLE.out] at HNX
              go_wp2_with (at_builtin; refine wpList_appCh rfl (.tmp 63) (.tmp 72) rfl (w.heap.size + 2) VK.length _ xs rfl (HK3.out.row.alloc _) ⟨w5.heap.size, 0, none⟩ 1 1 [.int .i64 x.id, .slice (some ⟨gK, 0, none⟩) (x.vs.length - n) (cw)] rfl rfl (two_newA _ _ _ _) (two_oneA _ rfl _ _ _) (by omega) (by omega) (by simp; omega) ?_)
              intro v7 w7 o7 g7 at7
              have B7 : Below (w.heap.size + 2) w5 w7 := Below.grown ((Below.refl _ w5).alloc (by omega) _) g7 (by simp; omega) (fun b hb => (HK3.out.row.lt b hb).1)
              have HM7 : Hid (MkQ _ _ _ _ _) := HM3.out.step B7 (Nat.le_refl _)
              have hK8 := HK3.out.snoc (en := ⟨x.id, x.vs.drop n⟩) (p := some ⟨gK, 0, none⟩) (cc := cw) HPO.out (by show 0 < (x.vs.drop n).length; omega) HI5.out (fun b' o' e e2 => by
                injection e with e; injection e with e; subst e
                have h2 := (HKC.out.row.lt _ e2.symm).2
                omega) (by rw [hdl]; exact o7) g7 (by simpa using at7)
              have HK8 : Hid (KeptC _ _ _ _ _ _ _) := hK8
              clear o7 g7 at7 hK8 B7
              go_wp2_with fail
              go_roundw
              case rel => exact ⟨k + 1, _, _, _, by omega, by go_num, HM7.out, by rw [HNX.out]; exact HK8.out, (show LowQ _ _ _ by rw [HNX.out, List.length_append]; exact HLQ.out.snoc (by omega))⟩
              case measure => simp [intOf]; omega
          · have hgo2 : en.gone = false := by simpa using hgo
            rw [hgo2] at a1
            have HLE : Hid (leftV t x.vs = x.vs.drop n) := HLF.out.2 (.inl hgo2)
            have hL1 : (0 : Int) < ((x.vs.length - n : Nat) : Int) := by omega
            clear HLF
            have HNX : Hid (_ = _) := HSO.out (by rw [HLE.out]; rw [hdl]; omega)
            rw [HLE.out] at HNX
            go_wp2_with (at_builtin; refine wpList_appCh rfl (.tmp 63) (.tmp 72) rfl (w.heap.size + 2) VK.length _ xs rfl (HK3.out.row.alloc _) ⟨w5.heap.size, 0, none⟩ 1 1 [.int .i64 x.id, .slice (some ⟨gK, 0, none⟩) (x.vs.length - n) (cw)] rfl rfl (two_newA _ _ _ _) (two_oneA _ rfl _ _ _) (by omega) (by omega) (by simp; omega) ?_)
            intro v7 w7 o7 g7 at7
            have B7 : Below (w.heap.size + 2) w5 w7 := Below.grown ((Below.refl _ w5).alloc (by omega) _) g7 (by simp; omega) (fun b hb => (HK3.out.row.lt b hb).1)
            have HM7 : Hid (MkQ _ _ _ _ _) := HM3.out.step B7 (Nat.le_refl _)
            have hK8 := HK3.out.snoc (en := ⟨x.id, x.vs.drop n⟩) (p := some ⟨gK, 0, none⟩) (cc := cw) HPO.out (by show 0 < (x.vs.drop n).length; omega) HI5.out (fun b' o' e e2 => by
              injection e with e; injection e with e; subst e
              have h2 := (HKC.out.row.lt _ e2.symm).2
              omega) (by rw [hdl]; exact o7) g7 (by simpa using at7)
            have HK8 : Hid (KeptC _ _ _ _ _ _ _) := hK8
            clear o7 g7 at7 hK8 B7
            go_wp2_with fail
            go_roundw
            case rel => exact ⟨k + 1, _, _, _, by omega, by go_num, HM7.out, by rw [HNX.out]; exact HK8.out, (show LowQ _ _ _ by rw [HNX.out, List.length_append]; exact HLQ.out.snoc (by omega))⟩
            case measure => simp [intOf]; omega
    · have hlt2 : ¬ (k : Int) < (c.chs.length : Int) := by omega
      have ht : c.chs.take k = c.chs := List.take_of_length_le (by omega)
      rw [ht] at HKC HLQ
      obtain ⟨pk, ck, rfl, hrow⟩ := HKC.out.inCh
      have HRW : Hid (RowCh _ _ _) := hrow
      obtain ⟨mb, ml, mc0, mc1, mc2, mz0, ⟨r0, mr0⟩, ⟨r1, mr1⟩, ⟨r2, mr2⟩, my0⟩ := M
      clear HM
      have hKs := ((((HKC.out.set (o := 1) (x := .slice pk (vacB t c.chs).length ck) HLQ.out (show w.heap.size < w.heap.size + 2 by omega)).set (o := 0) (x := .string c.name) HLQ.out (show w.heap.size + 1 < w.heap.size + 2 by omega)).set (o := 1) (x := .slice pk (vacB t c.chs).length ck) HLQ.out (show w.heap.size + 1 < w.heap.size + 2 by omega)).set (o := 2) (x := .slice (some ⟨g2, 0, none⟩) c.dfs.length cq) HLQ.out (show w.heap.size + 1 < w.heap.size + 2 by omega)).rowAt
      have HKS : Hid (RowCh _ _ _) := hKs
      clear hKs HKC HLQ hrow
      go_wp2_with fail
      refine bodyPost_ret (v := .agg #[.string c.name, .slice pk (vacB t c.chs).length ck, .slice (some ⟨g2, 0, none⟩) c.dfs.length cq]) (by simp [results, Tryz.results49, go_sem, *]) rfl ⟨⟨pk, ⟨ck, rfl⟩, HKS.out⟩, ?_⟩
      (repeat (first | (with_reducible exact Below.refl _ _) | (with_reducible assumption) | (with_reducible apply below_drewN) | (with_reducible apply Below.drew) | ((with_reducible refine Below.setCell ?_ ?_ _); rotate_left; focus (first | (simp; done) | (simp; omega) | omega)) | ((with_reducible refine Below.alloc ?_ ?_ _); rotate_left; focus (first | (simp; done) | (simp; omega) | omega))))

end Go.Proofs.YtkafanjfjplakaaGreatDoor.Co
