/- Marks on pages and trees: what the laws' helpers answer, and which memory they change. -/
import Derived.Test.YtaohljkmnojiiaaTrN
namespace Go.Proofs.Ytaohljkmnojiiaa.Tr
open Go.RowKit
set_option linter.unusedVariables false

/-- The pages that marks leave, from number q on, and the number behind them. -/
def marksP : Nat → List Pg → List Pg
  | _, [] => []
  | q, p :: t => ⟨q, marksE (q + 1) p.es.length⟩ :: marksP (q + 1 + 2 * p.es.length) t
def endP : Nat → List Pg → Nat
  | q, [] => q
  | q, p :: t => endP (q + 1 + 2 * p.es.length) t
theorem marksP_cons (q : Nat) (p : Pg) (t : List Pg) : marksP q (p :: t) = ⟨q, marksE (q + 1) p.es.length⟩ :: marksP (q + 1 + 2 * p.es.length) t := rfl
theorem endP_cons (q : Nat) (p : Pg) (t : List Pg) : endP q (p :: t) = endP (q + 1 + 2 * p.es.length) t := rfl
theorem marksP_len : ∀ (q : Nat) (f : List Pg), (marksP q f).length = f.length
  | _, [] => rfl
  | q, p :: t => by unfold marksP; simp [marksP_len _ t]
theorem marksP_app : ∀ (q : Nat) (a b : List Pg), marksP q (a ++ b) = marksP q a ++ marksP (endP q a) b
  | _, [], b => rfl
  | q, p :: t, b => by
    rw [List.cons_append, marksP_cons, marksP_cons, endP_cons, marksP_app _ t b]; rfl
theorem endP_app : ∀ (q : Nat) (a b : List Pg), endP q (a ++ b) = endP (endP q a) b
  | _, [], b => rfl
  | q, p :: t, b => by
    rw [List.cons_append, endP_cons, endP_cons]
    exact endP_app _ t b
theorem endP_ge : ∀ (q : Nat) (f : List Pg), q ≤ endP q f
  | q, [] => Nat.le_refl _
  | q, p :: t => by
    have := endP_ge (q + 1 + 2 * p.es.length) t
    unfold endP; omega
theorem endP_le : ∀ (q : Nat) (f : List Pg), (∀ p ∈ f, p.es.length ≤ 1048576) → endP q f ≤ q + f.length * 2097153
  | q, [], _ => by simp [endP]
  | q, p :: t, h => by
    have h1 := endP_le (q + 1 + 2 * p.es.length) t (fun r hr => h r (List.mem_cons_of_mem _ hr))
    have h2 := h p (List.mem_cons_self ..)
    unfold endP
    rw [List.length_cons, Nat.add_mul]
    omega
/-- The first k pages marked. -/
def mixM (q : Nat) (f : List Pg) (k : Nat) : List Pg := marksP q (f.take k) ++ f.drop k
theorem mixM_len (q : Nat) (f : List Pg) (k : Nat) (h : k ≤ f.length) : (mixM q f k).length = f.length := by unfold mixM; rw [List.length_append, marksP_len, List.length_take, List.length_drop]; omega
theorem mixM_zero (q : Nat) (f : List Pg) : mixM q f 0 = f := by unfold mixM marksP; simp
theorem mixM_full (q : Nat) (f : List Pg) (k : Nat) (h : k = f.length) : mixM q f k = marksP q f := by subst h; unfold mixM; simp
theorem mixM_get (q : Nat) (f : List Pg) (k : Nat) (h : k < f.length) (h2 : k < (mixM q f k).length) : (mixM q f k)[k] = f[k] := by
  have hl : (marksP q (f.take k)).length = k := by rw [marksP_len, List.length_take]; omega
  have e : (mixM q f k)[k]? = f[k]? := by
    unfold mixM
    rw [List.getElem?_append_right (by omega), hl, Nat.sub_self, List.getElem?_drop]; rfl
  rw [List.getElem?_eq_getElem h2, List.getElem?_eq_getElem h] at e
  exact Option.some.inj e
theorem mixM_set (q : Nat) (f : List Pg) (k : Nat) (h : k < f.length) : (mixM q f k).set k ⟨(endP q (f.take k) : Nat), marksE (endP q (f.take k) + 1) f[k].es.length⟩ = mixM q f (k + 1) := by
  unfold mixM
  have hl : (marksP q (f.take k)).length = k := by rw [marksP_len, List.length_take]; omega
  rw [List.set_append_right _ _ (by omega), hl, Nat.sub_self, List.take_succ_eq_append_getElem h, marksP_app, List.append_assoc]
  congr 1
  rw [List.drop_eq_getElem_cons h]; rfl
theorem endP_succ (q : Nat) (f : List Pg) (k : Nat) (h : k < f.length) : endP q (f.take (k + 1)) = endP q (f.take k) + 1 + 2 * f[k].es.length := by
  rw [List.take_succ_eq_append_getElem h, endP_app]; rfl

theorem PartT.mark {w w3 : World} {lo g c n : Nat} {f : List Pg} {vs : Nat → Value} {xs : List Value} (h : PartT w lo (.slice (some ⟨g, 0, none⟩) n c) n f n vs xs) (hn : f.length = n) {k : Nat} (hk : k < n) {num : Int} {es : List Ent}
    (ho : OwnE w3 lo (vs k) es) (hg : (w.setCell ⟨g, k * 2, none⟩ (.int .i64 num)).grownBy w3 (vs k).ownBlock) : PartT w3 lo (.slice (some ⟨g, 0, none⟩) n c) n (f.set k ⟨num, es⟩) n vs (xs.set (k * 2) (.int .i64 num)) := by
  have hl : xs.length = n * 2 := h.row.1
  have hsw : ∀ {i j : Nat}, ((vs i).ownBlock = none ∨ (vs i).ownBlock ≠ (vs j).ownBlock) → ((vs j).ownBlock = none ∨ (vs j).ownBlock ≠ (vs i).ownBlock) := by
    intro i j hh
    rcases hh with hh | hh
    · cases hj : (vs j).ownBlock with
      | none => exact .inl rfl
      | some b => exact .inr (by rw [hh]; simp)
    · exact .inr (fun e => hh e.symm)
  refine ⟨?_, ?_, ?_, ?_, ?_⟩
  · refine ((World.ownsRow.stored h.row (k * 2) (.int .i64 num)).1).kept hg (.inr ?_)
    rcases h.aside k (by omega) hk with hh | hh
    · rw [hh]; simp [Value.ownBlock]
    · exact fun e => hh e.symm
  · intro i hi0 hik
    have hi : i < f.length := by simpa using hi0
    by_cases e : i = k
    · subst e
      rw [List.getElem_set_self, List.getElem?_set_self (by omega), List.getElem?_set_ne (by omega)]
      exact ⟨rfl, (h.at_ i hi hik).2⟩
    · rw [List.getElem_set_ne (fun e' => e e'.symm), List.getElem?_set_ne (by omega), List.getElem?_set_ne (by omega)]
      exact h.at_ i hi hik
  · intro i hi0 hik
    have hi : i < f.length := by simpa using hi0
    by_cases e : i = k
    · subst e; rw [List.getElem_set_self]; exact ho
    · rw [List.getElem_set_ne (fun e' => e e'.symm)]
      exact ((World.ownsRow.kept (h.ents i hi hik) grown_set (h.aside i hi hik))).kept hg (h.apart i k hi (by omega) hik hk e)
  · intro i j hi hj hik hjk hne
    rw [List.length_set] at hi hj
    exact h.apart i j hi hj hik hjk hne
  · intro i hi hik
    rw [List.length_set] at hi
    exact h.aside i hi hik

/-- A tree's pages, owned, all of it in blocks from lo on, below hi. -/
def OwnH (w : World) (lo hi : Nat) (v : Value) (f : List Pg) : Prop := ∃ vs xs, PartT w lo v f.length f f.length vs xs ∧ (∀ b, v.ownBlock = some b → b < hi) ∧ ∀ i, i < f.length → ∀ b, (vs i).ownBlock = some b → b < hi
theorem OwnT.ownH {w : World} {lo : Nat} {v : Value} {f : List Pg} (h : OwnT w lo v f) : OwnH w lo w.heap.size v f := by
  obtain ⟨vs, xs, h⟩ := h
  exact ⟨vs, xs, h, fun b hb => (h.row.lt b hb).2, fun i hi b hb => (World.ownsRow.lt (h.ents i hi hi) b hb).2⟩
theorem OwnH.ownT {w : World} {lo hi : Nat} {v : Value} {f : List Pg} (h : OwnH w lo hi v f) : OwnT w lo v f := by
  obtain ⟨vs, xs, h, _⟩ := h
  exact ⟨vs, xs, h⟩
theorem OwnH.next {w w' : World} {lo hi : Nat} {v : Value} {f : List Pg} (h : OwnH w lo hi v f) (hb : Below w.heap.size w w') : OwnH w' lo hi v f := by
  obtain ⟨vs, xs, h, h2, h3⟩ := h
  exact ⟨vs, xs, h.next hb, h2, h3⟩
/-- What lies outside of the blocks that changed is as it was. -/
theorem OwnH.chg {w w' : World} {lo hi lo' hi' : Nat} {v : Value} {f : List Pg} (h : OwnH w lo hi v f) (hc : Chg lo' hi' w w') (ho : hi ≤ lo' ∨ hi' ≤ lo) : OwnH w' lo hi v f := by
  obtain ⟨vs, xs, h, h2, h3⟩ := h
  refine ⟨vs, xs, ⟨hc.owns h.row (fun g hg => ?_), h.at_, fun i hi' hk => hc.owns (h.ents i hi' hk) (fun g hg => ?_), h.apart, h.aside⟩, h2, h3⟩
  · have a := (h.row.lt g hg).1
    have b := h2 g hg
    omega
  · have a := (World.ownsRow.lt (h.ents i hi' hk) g hg).1
    have b := h3 i hi' g hg
    omega

set_option maxRecDepth 4000 in
set_option maxHeartbeats 2000000 in
theorem markPageS_any (lo hi : Nat) (v : Value) (f : List Pg) (q : Nat) (w : World) (hown : OwnH w lo hi v f) (h1 : 1 ≤ q) (h2 : q ≤ 1000) (hl : f.length ≤ 1048576) (hs : ∀ p ∈ f, p.es.length ≤ 1048576) :
    Calls Try.prog 85 #[v, .int .i64 q] w fun e w' => e = .returned (.int .i64 ((endP q f : Nat) : Int)) ∧ OwnH w' lo hi v (marksP q f) ∧ Chg lo hi w w' := by
  have HH := hown
  obtain ⟨vs, xs0, hP, hv, hvs⟩ := HH
  have hrow := hP.row
  obtain ⟨hr1, hr2⟩ := hrow
  rcases hr2 with ⟨rfl, h0⟩ | ⟨g, c, cur, rfl, hg, _⟩
  · have hf : f = [] := List.length_eq_zero_iff.1 h0
    subst hf
    have HO0 : Hid (OwnH _ _ _ _ _) := hown
    clear hown hP hv hvs hr1
    go_enter Try.func85, Try.ntmps85
    go_wp2_with fail
    refine wp_loop_rounds 1 ?_
    rw [rounds_succ]
    go_wp2_with fail
    go_ret
    exact ⟨rfl, HO0.out, Chg.refl _ _ _⟩
  · have HP0 : Hid (PartT _ _ _ _ _ _ _ _) := hP
    have HV : Hid (∀ b, (Value.slice (some ⟨g, 0, none⟩) f.length c).ownBlock = some b → b < hi) := hv
    have HVS : Hid (∀ i, i < f.length → ∀ b, (vs i).ownBlock = some b → b < hi) := hvs
    have HS : Hid _ := hs
    clear hown hP hv hvs hs hr1
    go_enter Try.func85, Try.ntmps85
    go_wp2_with fail
    go_loopw [1, 5] (fun x i wr => ∃ (k : Nat) (xs : List Value), k ≤ f.length ∧ i = .int .i64 k ∧ x = .int .i64 ((endP q (f.take k) : Nat) : Int) ∧ PartT wr lo (.slice (some ⟨g, 0, none⟩) f.length c) f.length (mixM q f k) f.length vs xs ∧ Chg lo hi w wr) (fun _ i _ => f.length - (intOf i).toNat)
    case atStart => exact ⟨0, xs0, Nat.zero_le _, rfl, rfl, by rw [mixM_zero]; exact HP0.out, Chg.refl _ _ _⟩
    case round =>
      obtain ⟨k, xs, hk, rfl, rfl, hP, hC⟩ := hrel
      have HC : Hid (Chg _ _ _ _) := hC
      have hz := hC.size
      have hml := mixM_len q f k hk
      have hen1 := endP_ge q (f.take k)
      have hen2 := endP_le q (f.take k) (fun p hp => HS.out p (List.mem_of_mem_take hp))
      have hen3 : (f.take k).length ≤ 1048576 := by rw [List.length_take]; omega
      have hen4 : (f.take k).length * 2097153 ≤ 1048576 * 2097153 := Nat.mul_le_mul_right _ hen3
      clear hC HP0
      by_cases hlt : k < f.length
      · have hlt2 : (k : Int) < (f.length : Int) := by omega
        have hsk := HS.out f[k] (List.getElem_mem _)
        have hglr : g < wr.heap.size := (hP.row.lt g rfl).2
        obtain ⟨z0, y0⟩ := own_there hP.row (k * 2) (by omega)
        have f0 := World.ownsRow.frozenAt hP.row (k * 2)
        have hat := (hP.at_ k (by omega) hlt).2
        have y1 := owns_cell hP.row _ _ hat
        have hen := hP.ents k (by omega) hlt
        rw [mixM_get q f k hlt] at hen
        have hsu := endP_succ q f k hlt
        have hmset := mixM_set q f k hlt
        obtain ⟨E, hE⟩ : ∃ E, E = endP q (f.take k) := ⟨_, rfl⟩
        rw [← hE] at hen1 hen2 hsu hmset ⊢
        have hen' : OwnE (wr.setCell ⟨g, k * 2, none⟩ (.int .i64 E)) lo (vs k) f[k].es := World.ownsRow.kept hen grown_set (hP.aside k (by omega) hlt)
        have HM0 := markEntryS_any lo (vs k) f[k].es (E + 1) _ hen' (by omega) (by omega) hsk
        rw [show ((E + 1 : Nat) : Int) = (E : Int) + 1 by omega] at HM0
        have HM : Hid (Calls _ _ _ _ _) := HM0
        have HP : Hid (PartT _ _ _ _ _ _ _ _) := hP
        have HSU : Hid _ := hsu
        have HMS : Hid _ := hmset
        have hgw : lo ≤ g := (hP.row.lt g rfl).1
        have hEb : E ≤ 4000000000000 := by omega
        clear hP hat hen hen' hsu hmset hE hen2 hen3 hen4 HM0
        go_wp2_with fail
        refine HM.out.mono ?_
        rintro e w3 ⟨rfl, hO3, hg3⟩
        have hP3 := HP.out.mark hml hlt hO3 hg3
        rw [HMS.out] at hP3
        have HP3 : Hid (PartT _ _ _ _ _ _ _ _) := hP3
        have HC3 : Hid (Chg _ _ _ _) := (HC.out.trans (Chg.of_grown grown_set (fun b hb => by injection hb with hb; subst hb; exact ⟨hgw, HV.out _ rfl⟩))).trans (Chg.of_grown hg3 (fun b hb => ⟨(World.ownsRow.lt hO3 b hb).1, HVS.out k hlt b hb⟩))
        have hz3 := hg3.size
        clear hP3 hO3 hg3 HM HP HC
        go_wp2_with fail
        go_roundw
        case rel => exact ⟨k + 1, _, by omega, by go_num, by rw [HSU.out]; go_num, HP3.out, HC3.out⟩
        case measure => simp [intOf]; omega
      · obtain rfl : k = f.length := by omega
        rw [mixM_full q f _ rfl] at hP
        rw [List.take_length] at *
        have HP : Hid (PartT _ _ _ _ _ _ _ _) := hP
        clear hP
        go_wp2_with fail
        go_ret
        exact ⟨rfl, ⟨vs, xs, by rw [marksP_len]; exact HP.out, HV.out, by rw [marksP_len]; exact HVS.out⟩, HC.out⟩

set_option maxRecDepth 4000 in
set_option maxHeartbeats 2000000 in
theorem heldPageS_any (a : Option Addr) (c : Nat) (f : List Pg) (q : Nat) (w : World) (hr : RowP w a (marksP q f)) (h1 : 1 ≤ q) (h2 : q ≤ 1000) (hl : f.length ≤ 1048576) (hs : ∀ p ∈ f, p.es.length ≤ 1048576) :
    Calls Try.prog 86 #[.slice a f.length c, .int .i64 q] w fun e w' => e = .returned (.int .i64 ((endP q f : Nat) : Int)) ∧ Below w.heap.size w w' := by
  have HR : Hid (RowP _ _ _) := hr
  have HS : Hid _ := hs
  clear hr hs
  go_enter Try.func86, Try.ntmps86
  go_wp2_with fail
  go_loopw [1, 5] (fun x i wr => ∃ k : Nat, k ≤ f.length ∧ i = .int .i64 k ∧ x = .int .i64 ((endP q (f.take k) : Nat) : Int) ∧ Below w.heap.size w wr) (fun _ i _ => f.length - (intOf i).toNat)
  case atStart => exact ⟨0, Nat.zero_le _, rfl, rfl, Below.refl _ _⟩
  case round =>
    obtain ⟨k, hk, rfl, rfl, hbel⟩ := hrel
    have hz := hbel.size
    have hen1 := endP_ge q (f.take k)
    have hen2 := endP_le q (f.take k) (fun p hp => HS.out p (List.mem_of_mem_take hp))
    have hen3 : (f.take k).length ≤ 1048576 := by rw [List.length_take]; omega
    have hen4 : (f.take k).length * 2097153 ≤ 1048576 * 2097153 := Nat.mul_le_mul_right _ hen3
    by_cases hlt : k < f.length
    · rcases HR.out.next hbel with h0 | ⟨g, rfl, R⟩
      · rw [← List.length_eq_zero_iff, marksP_len] at h0; omega
      have hlt2 : (k : Int) < (f.length : Int) := by omega
      have hsk := HS.out f[k] (List.getElem_mem _)
      have hkm : k < (marksP q f).length := by rw [marksP_len]; exact hlt
      obtain ⟨x0, pa, ca, x1, t1⟩ := R.cells k hkm
      have hget : (marksP q f)[k] = ⟨(endP q (f.take k) : Nat), marksE (endP q (f.take k) + 1) f[k].es.length⟩ := by
        have e : (marksP q f)[k]? = some ⟨(endP q (f.take k) : Nat), marksE (endP q (f.take k) + 1) f[k].es.length⟩ := by
          conv => lhs; rw [← List.take_append_drop k f, marksP_app]
          have hl' : (marksP q (f.take k)).length = k := by rw [marksP_len, List.length_take]; omega
          rw [List.getElem?_append_right (by omega), hl', Nat.sub_self, List.drop_eq_getElem_cons hlt]; rfl
        rw [List.getElem?_eq_getElem hkm] at e
        exact Option.some.inj e
      rw [hget] at x0 x1 t1
      simp only [marksE_len] at x0 x1 t1
      have hsu := endP_succ q f k hlt
      obtain ⟨E, hE⟩ : ∃ E, E = endP q (f.take k) := ⟨_, rfl⟩
      rw [← hE] at hen1 hen2 hsu x0 t1 ⊢
      have HM0 := heldEntryS_any pa ca f[k].es.length (E + 1) wr t1 (by omega) (by omega) hsk
      rw [show ((E + 1 : Nat) : Int) = (E : Int) + 1 by omega] at HM0
      have HM : Hid (Calls _ _ _ _ _) := HM0
      have HSU : Hid _ := hsu
      have hEb : E ≤ 4000000000000 := by omega
      clear R t1 hget hsu hE hen2 hen3 hen4 HM0
      go_wp2_with fail
      refine HM.out.mono ?_
      rintro e w3 ⟨rfl, hb3⟩
      have hb4 := hbel.trans (hb3.mono hbel.size)
      clear hb3 HM
      go_wp2_with fail
      go_roundw
      case rel => exact ⟨k + 1, by omega, by go_num, by rw [HSU.out]; go_num, hb4⟩
      case measure => simp [intOf]; omega
    · obtain rfl : k = f.length := by omega
      rw [List.take_length] at *
      go_wp2_with fail
      go_ret
      exact ⟨rfl, hbel⟩

set_option maxRecDepth 4000 in
set_option maxHeartbeats 2000000 in
theorem markTree_any (lo hi : Nat) (v : Value) (f : List Pg) (next : Int) (w : World) (hown : OwnH w lo hi v f) (hlo : hi ≤ w.heap.size) (hl : f.length ≤ 1048576) (hs : ∀ p ∈ f, p.es.length ≤ 1048576) :
    Calls Try.prog 41 #[.agg #[v, .int .i64 next], .int .i64 1] w fun e w' => e = .returned (.int .i64 ((endP 1 f : Nat) : Int)) ∧ OwnH w' lo hi v (marksP 1 f) ∧ Chg lo hi w w' := by
  have hb0 : Below w.heap.size w (w.alloc (.cells #[v, .int .i64 next] 37)) := (Below.refl _ _).alloc (Nat.le_refl _) _
  have HC : Hid (Calls _ _ _ _ _) := markPageS_any lo hi v f 1 _ (hown.next hb0) (by omega) (by omega) hl hs
  clear hown hs
  go_enter Try.func41, Try.ntmps41
  go_wp2_with fail
  refine HC.out.mono ?_
  rintro e w1 ⟨rfl, hO, hc⟩
  have HO : Hid (OwnH _ _ _ _ _) := hO
  have HB : Hid (Chg _ _ _ _) := (Chg.of_below hb0).trans hc
  clear hO hc HC
  obtain ⟨E, hE⟩ : ∃ E, E = endP 1 f := ⟨_, rfl⟩
  rw [← hE]
  have HE : Hid _ := hE
  clear hE
  go_wp2_with fail
  go_ret
  exact ⟨by rw [← HE.out]; rfl, HO.out, HB.out⟩
set_option maxRecDepth 4000 in
set_option maxHeartbeats 2000000 in
theorem heldTree_any (a : Option Addr) (c : Nat) (f : List Pg) (next : Int) (w : World) (hr : RowP w a (marksP 1 f)) (hl : f.length ≤ 1048576) (hs : ∀ p ∈ f, p.es.length ≤ 1048576) :
    Calls Try.prog 42 #[.agg #[.slice a f.length c, .int .i64 next], .int .i64 1] w fun e w' => e = .returned (.int .i64 ((endP 1 f : Nat) : Int)) ∧ Below w.heap.size w w' := by
  have hb0 : Below w.heap.size w (w.alloc (.cells #[.slice a f.length c, .int .i64 next] 37)) := (Below.refl _ _).alloc (Nat.le_refl _) _
  have HC : Hid (Calls _ _ _ _ _) := heldPageS_any a c f 1 _ (hr.next hb0) (by omega) (by omega) hl hs
  clear hr hs
  go_enter Try.func42, Try.ntmps42
  go_wp2_with fail
  refine HC.out.mono ?_
  rintro e w1 ⟨rfl, hb⟩
  have hbw := hb0.trans (hb.mono hb0.size)
  clear hb HC
  obtain ⟨E, hE⟩ : ∃ E, E = endP 1 f := ⟨_, rfl⟩
  rw [← hE]
  have HE : Hid _ := hE
  clear hE
  go_wp2_with fail
  go_ret
  exact ⟨by rw [← HE.out]; rfl, hbw⟩

end Go.Proofs.Ytaohljkmnojiiaa.Tr
