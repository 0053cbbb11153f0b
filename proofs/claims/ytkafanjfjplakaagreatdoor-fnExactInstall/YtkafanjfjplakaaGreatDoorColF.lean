/- Marks on rows of definitions, and on collections: what the laws' helpers answer, and which memory they change. -/
import Derived.Test.YtkafanjfjplakaaGreatDoorColB
namespace Go.Proofs.YtkafanjfjplakaaGreatDoor.Co
open Go.RowKit Tr
set_option linter.unusedVariables false

/-- The definitions that marks leave, from number q on, and the number behind them. -/
def marksDf : Nat → List Dfn → List Dfn
  | _, [] => []
  | q, p :: t => ⟨Tr.mt q, marksPt (q + 1) p.ps.length⟩ :: marksDf (q + 1 + 2 * p.ps.length) t
def endDf : Nat → List Dfn → Nat
  | q, [] => q
  | q, p :: t => endDf (q + 1 + 2 * p.ps.length) t
theorem marksDf_cons (q : Nat) (p : Dfn) (t : List Dfn) : marksDf q (p :: t) = ⟨Tr.mt q, marksPt (q + 1) p.ps.length⟩ :: marksDf (q + 1 + 2 * p.ps.length) t := rfl
theorem endDf_cons (q : Nat) (p : Dfn) (t : List Dfn) : endDf q (p :: t) = endDf (q + 1 + 2 * p.ps.length) t := rfl
theorem marksDf_len : ∀ (q : Nat) (f : List Dfn), (marksDf q f).length = f.length
  | _, [] => rfl
  | q, p :: t => by unfold marksDf; simp [marksDf_len _ t]
theorem marksDf_app : ∀ (q : Nat) (a b : List Dfn), marksDf q (a ++ b) = marksDf q a ++ marksDf (endDf q a) b
  | _, [], b => rfl
  | q, p :: t, b => by
    rw [List.cons_append, marksDf_cons, marksDf_cons, endDf_cons, marksDf_app _ t b]; rfl
theorem endDf_app : ∀ (q : Nat) (a b : List Dfn), endDf q (a ++ b) = endDf (endDf q a) b
  | _, [], b => rfl
  | q, p :: t, b => by
    rw [List.cons_append, endDf_cons, endDf_cons]
    exact endDf_app _ t b
theorem endDf_ge : ∀ (q : Nat) (f : List Dfn), q ≤ endDf q f
  | q, [] => Nat.le_refl _
  | q, p :: t => by
    have := endDf_ge (q + 1 + 2 * p.ps.length) t
    unfold endDf; omega
theorem endDf_le : ∀ (q : Nat) (f : List Dfn), (∀ p ∈ f, p.ps.length ≤ 1048576) → endDf q f ≤ q + f.length * 2097153
  | q, [], _ => by simp [endDf]
  | q, p :: t, h => by
    have h1 := endDf_le (q + 1 + 2 * p.ps.length) t (fun r hr => h r (List.mem_cons_of_mem _ hr))
    have h2 := h p (List.mem_cons_self ..)
    unfold endDf
    rw [List.length_cons, Nat.add_mul]
    omega
/-- The first k definitions marked. -/
def mixMDf (q : Nat) (f : List Dfn) (k : Nat) : List Dfn := marksDf q (f.take k) ++ f.drop k
theorem mixMDf_len (q : Nat) (f : List Dfn) (k : Nat) (h : k ≤ f.length) : (mixMDf q f k).length = f.length := by unfold mixMDf; rw [List.length_append, marksDf_len, List.length_take, List.length_drop]; omega
theorem mixMDf_zero (q : Nat) (f : List Dfn) : mixMDf q f 0 = f := by unfold mixMDf marksDf; simp
theorem mixMDf_full (q : Nat) (f : List Dfn) (k : Nat) (h : k = f.length) : mixMDf q f k = marksDf q f := by subst h; unfold mixMDf; simp
theorem mixMDf_get (q : Nat) (f : List Dfn) (k : Nat) (h : k < f.length) (h2 : k < (mixMDf q f k).length) : (mixMDf q f k)[k] = f[k] := by
  have hl : (marksDf q (f.take k)).length = k := by rw [marksDf_len, List.length_take]; omega
  have e : (mixMDf q f k)[k]? = f[k]? := by
    unfold mixMDf
    rw [List.getElem?_append_right (by omega), hl, Nat.sub_self, List.getElem?_drop]; rfl
  rw [List.getElem?_eq_getElem h2, List.getElem?_eq_getElem h] at e
  exact Option.some.inj e
theorem mixMDf_set (q : Nat) (f : List Dfn) (k : Nat) (h : k < f.length) : (mixMDf q f k).set k ⟨Tr.mt (endDf q (f.take k)), marksPt (endDf q (f.take k) + 1) f[k].ps.length⟩ = mixMDf q f (k + 1) := by
  unfold mixMDf
  have hl : (marksDf q (f.take k)).length = k := by rw [marksDf_len, List.length_take]; omega
  rw [List.set_append_right _ _ (by omega), hl, Nat.sub_self, List.take_succ_eq_append_getElem h, marksDf_app, List.append_assoc]
  congr 1
  rw [List.drop_eq_getElem_cons h]; rfl
theorem endDf_succ (q : Nat) (f : List Dfn) (k : Nat) (h : k < f.length) : endDf q (f.take (k + 1)) = endDf q (f.take k) + 1 + 2 * f[k].ps.length := by
  rw [List.take_succ_eq_append_getElem h, endDf_app]; rfl

theorem PartDf.mark {w w3 : World} {lo g c n : Nat} {f : List Dfn} {vs : Nat → Value} {xs : List Value} (h : PartDf w lo (.slice (some ⟨g, 0, none⟩) n c) n f n vs xs) (hn : f.length = n) {k : Nat} (hk : k < n) {num : ByteArray} {es : List Prt}
    (ho : OwnD w3 lo (vs k) es) (hg : (w.setCell ⟨g, k * 2, none⟩ (.string num)).grownBy w3 (vs k).ownBlock) : PartDf w3 lo (.slice (some ⟨g, 0, none⟩) n c) n (f.set k ⟨num, es⟩) n vs (xs.set (k * 2) (.string num)) := by
  have hl : xs.length = n * 2 := h.row.1
  have hsw : ∀ {i j : Nat}, ((vs i).ownBlock = none ∨ (vs i).ownBlock ≠ (vs j).ownBlock) → ((vs j).ownBlock = none ∨ (vs j).ownBlock ≠ (vs i).ownBlock) := by
    intro i j hh
    rcases hh with hh | hh
    · cases hj : (vs j).ownBlock with
      | none => exact .inl rfl
      | some b => exact .inr (by rw [hh]; simp)
    · exact .inr (fun e => hh e.symm)
  refine ⟨?_, ?_, ?_, ?_, ?_⟩
  · refine ((World.ownsRow.stored h.row (k * 2) (.string num)).1).kept hg (.inr ?_)
    rcases h.aside k (by omega) hk with hh | hh
    · rw [hh]; simp [Value.ownBlock]
    · exact fun e => hh e.symm
  · intro i hi0 hik
    have hi : i < f.length := by simpa using hi0
    by_cases e : i = k
    · subst e
      rw [List.getElem_set_self, List.getElem?_set_self (by omega), List.getElem?_set_ne (by omega)]
      exact ⟨rfl, (h.at_ i hi hik).2⟩
    · rw [List.getElem_set_ne (fun e' => e e'.symm), List.getElem?_set_ne (by omega), List.getElem?_set_ne (by omega)]
      exact h.at_ i hi hik
  · intro i hi0 hik
    have hi : i < f.length := by simpa using hi0
    by_cases e : i = k
    · subst e; rw [List.getElem_set_self]; exact ho
    · rw [List.getElem_set_ne (fun e' => e e'.symm)]
      exact ((World.ownsRow.kept (h.ents i hi hik) grown_set (h.aside i hi hik))).kept hg (h.apart i k hi (by omega) hik hk e)
  · intro i j hi hj hik hjk hne
    rw [List.length_set] at hi hj
    exact h.apart i j hi hj hik hjk hne
  · intro i hi hik
    rw [List.length_set] at hi
    exact h.aside i hi hik

set_option maxRecDepth 4000 in
set_option maxHeartbeats 2000000 in
theorem markDefS_any (lo hi : Nat) (v : Value) (f : List Dfn) (q : Nat) (w : World) (hown : OwnDfH w lo hi v f) (h1 : 1 ≤ q) (h2 : q ≤ 6000000000000) (hl : f.length ≤ 1048576) (hs : ∀ p ∈ f, p.ps.length ≤ 1048576) :
    Calls Tryz.prog 59 #[v, .int .i64 q] w fun e w' => e = .returned (.int .i64 ((endDf q f : Nat) : Int)) ∧ OwnDfH w' lo hi v (marksDf q f) ∧ Chg lo hi w w' := by
  have HH := hown
  obtain ⟨vs, xs0, hP, hv, hvs⟩ := HH
  have hrow := hP.row
  obtain ⟨hr1, hr2⟩ := hrow
  rcases hr2 with ⟨rfl, h0⟩ | ⟨g, c, cur, rfl, hg, _⟩
  · have hf : f = [] := List.length_eq_zero_iff.1 h0
    subst hf
    have HO0 : Hid (OwnDfH _ _ _ _ _) := hown
    clear hown hP hv hvs hr1
    go_enter Tryz.func59, Tryz.ntmps59
    go_wp2_with fail
    refine wp_loop_rounds 1 ?_
    rw [rounds_succ]
    go_wp2_with fail
    go_ret
    exact ⟨rfl, HO0.out, Chg.refl _ _ _⟩
  · have HP0 : Hid (PartDf _ _ _ _ _ _ _ _) := hP
    have HV : Hid (∀ b, (Value.slice (some ⟨g, 0, none⟩) f.length c).ownBlock = some b → b < hi) := hv
    have HVS : Hid (∀ i, i < f.length → ∀ b, (vs i).ownBlock = some b → b < hi) := hvs
    have HS : Hid _ := hs
    clear hown hP hv hvs hs hr1
    go_enter Tryz.func59, Tryz.ntmps59
    go_wp2_with fail
    go_loopw [1, 5] (fun x i wr => ∃ (k : Nat) (xs : List Value), k ≤ f.length ∧ i = .int .i64 k ∧ x = .int .i64 ((endDf q (f.take k) : Nat) : Int) ∧ PartDf wr lo (.slice (some ⟨g, 0, none⟩) f.length c) f.length (mixMDf q f k) f.length vs xs ∧ Chg lo hi w wr) (fun _ i _ => f.length - (intOf i).toNat)
    case atStart => exact ⟨0, xs0, Nat.zero_le _, rfl, rfl, by rw [mixMDf_zero]; exact HP0.out, Chg.refl _ _ _⟩
    case round =>
      obtain ⟨k, xs, hk, rfl, rfl, hP, hC⟩ := hrel
      have HC : Hid (Chg _ _ _ _) := hC
      have hz := hC.size
      have hml := mixMDf_len q f k hk
      have hen1 := endDf_ge q (f.take k)
      have hen2 := endDf_le q (f.take k) (fun p hp => HS.out p (List.mem_of_mem_take hp))
      have hen3 : (f.take k).length ≤ 1048576 := by rw [List.length_take]; omega
      have hen4 : (f.take k).length * 2097153 ≤ 1048576 * 2097153 := Nat.mul_le_mul_right _ hen3
      clear hC HP0
      by_cases hlt : k < f.length
      · have hlt2 : (k : Int) < (f.length : Int) := by omega
        have hsk := HS.out f[k] (List.getElem_mem _)
        have hglr : g < wr.heap.size := (hP.row.lt g rfl).2
        have hat := (hP.at_ k (by omega) hlt).2
        have y1 := owns_cell hP.row _ _ hat
        have hen := hP.ents k (by omega) hlt
        rw [mixMDf_get q f k hlt] at hen
        have hsu := endDf_succ q f k hlt
        have hmset := mixMDf_set q f k hlt
        obtain ⟨E, hE⟩ : ∃ E, E = endDf q (f.take k) := ⟨_, rfl⟩
        rw [← hE] at hen1 hen2 hsu hmset ⊢
        have HEN : Hid (OwnD _ _ _ _) := hen
        have HP0 : Hid (PartDf _ _ _ _ _ _ _ _) := hP
        have HSU : Hid _ := hsu
        have HMS : Hid _ := hmset
        have hgw : lo ≤ g := (hP.row.lt g rfl).1
        have hEb : E ≤ 9000000000000 := by omega
        clear hP hat hen hsu hmset hE hen2 hen3 hen4 y1
        go_wp2_with fail
        refine (markText_at E _ (by omega) (by omega) (by omega) _).mono ?_
        rintro e w2 ⟨rfl, hb2⟩
        have hP := HP0.out.next hb2
        have hen2 := owns_below HEN.out hb2
        obtain ⟨z0, y0⟩ := own_there hP.row (k * 2) (by omega)
        have f0 := World.ownsRow.frozenAt hP.row (k * 2)
        have y1 := owns_cell hP.row _ _ (hP.at_ k (by omega) hlt).2
        have hglr2 : g < w2.heap.size := (hP.row.lt g rfl).2
        have hen' : OwnD (w2.setCell ⟨g, k * 2, none⟩ (.string (Tr.mt E))) lo (vs k) f[k].ps := World.ownsRow.kept hen2 grown_set (hP.aside k (by omega) hlt)
        have HM0 := markPartS_any lo (vs k) f[k].ps (E + 1) _ hen' (by omega) (by omega) hsk
        rw [show ((E + 1 : Nat) : Int) = (E : Int) + 1 by omega] at HM0
        have HM : Hid (Calls _ _ _ _ _) := HM0
        have HP : Hid (PartDf _ _ _ _ _ _ _ _) := hP
        have HC2 : Hid (Chg _ _ _ _) := HC.out.trans (Chg.of_below hb2)
        have hz2 := hb2.size
        clear hP hen2 hen' HM0 HP0 HEN hb2 HC
        go_wp2_with fail
        refine HM.out.mono ?_
        rintro e w3 ⟨rfl, hO3, hg3⟩
        have hP3 := HP.out.mark hml hlt hO3 hg3
        rw [HMS.out] at hP3
        have HP3 : Hid (PartDf _ _ _ _ _ _ _ _) := hP3
        have HC3 : Hid (Chg _ _ _ _) := (HC2.out.trans (Chg.of_grown grown_set (fun b hb => by injection hb with hb; subst hb; exact ⟨hgw, HV.out _ rfl⟩))).trans (Chg.of_grown hg3 (fun b hb => ⟨(World.ownsRow.lt hO3 b hb).1, HVS.out k hlt b hb⟩))
        have hz3 := hg3.size
        clear hP3 hO3 hg3 HM HP HC2
        go_wp2_with fail
        go_roundw
        case rel => exact ⟨k + 1, _, by omega, by go_num, by rw [HSU.out]; go_num, HP3.out, HC3.out⟩
        case measure => simp [intOf]; omega
      · obtain rfl : k = f.length := by omega
        rw [mixMDf_full q f _ rfl] at hP
        rw [List.take_length] at *
        have HP : Hid (PartDf _ _ _ _ _ _ _ _) := hP
        clear hP
        go_wp2_with fail
        go_ret
        exact ⟨rfl, ⟨vs, xs, by rw [marksDf_len]; exact HP.out, HV.out, by rw [marksDf_len]; exact HVS.out⟩, HC.out⟩


end Go.Proofs.YtkafanjfjplakaaGreatDoor.Co
